/- The reader's escapes. -/
import Derived.Test.YtdclhepjoifpiaaGreatDoorAp
import Derived.WalkMore
import Derived.ScopeJumps
import Derived.Test.YtdclhepjoifpiaaGreatDoorAm
import Derived.PlainAid
namespace Go.Proofs.YtdclhepjoifpiaaGreatDoor
open Go.RowKit

/-- The short escapes, as the program lays them. -/
def Shorts (w : World) : Prop := w.cell? ⟨1, 0, none⟩ = some (.int .u8 34) ∧ w.cell? ⟨1, 1, none⟩ = some (.int .u8 34) ∧ w.cell? ⟨1, 2, none⟩ = some (.int .u8 92) ∧ w.cell? ⟨1, 3, none⟩ = some (.int .u8 92) ∧ w.cell? ⟨1, 4, none⟩ = some (.int .u8 47) ∧ w.cell? ⟨1, 5, none⟩ = some (.int .u8 47) ∧ w.cell? ⟨1, 6, none⟩ = some (.int .u8 98) ∧ w.cell? ⟨1, 7, none⟩ = some (.int .u8 8) ∧ w.cell? ⟨1, 8, none⟩ = some (.int .u8 102) ∧ w.cell? ⟨1, 9, none⟩ = some (.int .u8 12) ∧ w.cell? ⟨1, 10, none⟩ = some (.int .u8 110) ∧ w.cell? ⟨1, 11, none⟩ = some (.int .u8 10) ∧ w.cell? ⟨1, 12, none⟩ = some (.int .u8 114) ∧ w.cell? ⟨1, 13, none⟩ = some (.int .u8 13) ∧ w.cell? ⟨1, 14, none⟩ = some (.int .u8 116) ∧ w.cell? ⟨1, 15, none⟩ = some (.int .u8 9)
theorem Shorts.old {W w : World} (h : Shorts W) (hz : 1 < W.heap.size) (hb : Below W.heap.size W w) : Shorts w := by
  obtain ⟨h0, h1, h2, h3, h4, h5, h6, h7, h8, h9, h10, h11, h12, h13, h14, h15⟩ := h
  exact ⟨(hb.cell (p := ⟨1, 0, none⟩) hz).trans h0, (hb.cell (p := ⟨1, 1, none⟩) hz).trans h1, (hb.cell (p := ⟨1, 2, none⟩) hz).trans h2, (hb.cell (p := ⟨1, 3, none⟩) hz).trans h3, (hb.cell (p := ⟨1, 4, none⟩) hz).trans h4, (hb.cell (p := ⟨1, 5, none⟩) hz).trans h5, (hb.cell (p := ⟨1, 6, none⟩) hz).trans h6, (hb.cell (p := ⟨1, 7, none⟩) hz).trans h7, (hb.cell (p := ⟨1, 8, none⟩) hz).trans h8, (hb.cell (p := ⟨1, 9, none⟩) hz).trans h9, (hb.cell (p := ⟨1, 10, none⟩) hz).trans h10, (hb.cell (p := ⟨1, 11, none⟩) hz).trans h11, (hb.cell (p := ⟨1, 12, none⟩) hz).trans h12, (hb.cell (p := ⟨1, 13, none⟩) hz).trans h13, (hb.cell (p := ⟨1, 14, none⟩) hz).trans h14, (hb.cell (p := ⟨1, 15, none⟩) hz).trans h15⟩
theorem tok_short_at {l : List UInt8} {q : Nat} {c b : UInt8} (h1 : tkB l q 92 = true) (h2 : tkB l (q + 1) (c.toNat : Int) = true) (hs : Qu.short c = some b) : Qu.tok (l.drop q) = .go 2 [b] (l.drop (q + 2)) := by
  rw [tkB_drop (c := 92) h1, tkB_drop h2, Qu.tok]
  have : Qu.un (92 :: c :: l.drop (q + 1 + 1)) = .unit 2 (.byte b) (l.drop (q + 2)) := by
    simp only [Qu.un, hs]
    rw [if_neg (by decide), if_pos trivial]
  rw [this]
theorem tok_esc_none {l : List UInt8} {q : Nat} (h1 : tkB l q 92 = true) (hu : tkB l (q + 1) 117 = false) (hn : ∀ c b, Qu.short c = some b → tkB l (q + 1) (c.toNat : Int) = false) : Qu.tok (l.drop q) = .stop (.bad false 1) := by
  have : Qu.un (l.drop q) = .bad 1 := by
    rw [tkB_drop (c := 92) h1]
    rcases Nat.lt_or_ge (q + 1) l.length with h | h
    · obtain ⟨d, hd, hb⟩ := drop_at h
      rw [hd]
      have e1 : Qu.short d = none := by
        cases hs : Qu.short d with
        | none => rfl
        | some b =>
          have := hn d b hs
          simp [tkB, h, hb] at this
      have e2 : d ≠ 117 := by
        rintro rfl
        simp [tkB, h, hb] at hu
      simp only [Qu.un, e1]
      rw [if_neg (by decide), if_pos trivial, if_neg e2]
    · rw [List.drop_eq_nil_of_le h]
      rfl
  rw [Qu.tok, this]
theorem short_in {c b : UInt8} (h : Qu.short c = some b) : c = 34 ∨ c = 92 ∨ c = 47 ∨ c = 98 ∨ c = 102 ∨ c = 110 ∨ c = 114 ∨ c = 116 := by
  unfold Qu.short at h
  repeat' split at h
  all_goals first
    | (cases h; done)
    | simp_all
section
variable {W w : World} {b : Nat} {s : ByteArray} {t l : List UInt8}
theorem take_yg {p : Nat} (c : Int) (h : RS W b s w p t) (hs : s = txt l) (hl : l.length ≤ 1000000) (htk : tkB l p c = true) :
    Calls Tryz.prog 102 #[.pointer (some ⟨b, 0, none⟩), .int .u8 c] w fun e w' => e = .returned (.bool true) ∧ RS W b s w' ((p + 1 : Nat) : Int) t ∧ w.grownBy w' (some b) := by
  obtain ⟨hp, hc⟩ : p < l.length ∧ bt l p = c := by simpa [tkB] using htk
  clear htk
  have HR := Lib.hid h
  obtain ⟨_, _, v, h3, _⟩ := h
  obtain ⟨c0, c1, c2, cf⟩ := rd_cells h3
  have f1 := cf 1
  have hsz : s.size = l.length := by rw [hs, txt_size]
  have hx := txt_at hs (k := p)
  have hz : p < s.size := by omega
  have hs1 : s.size ≤ 1000000 := by omega
  have g1 : ((p : Int) == (s.size : Int)) = false := by simp; omega
  have g2 : (bt l p != c) = false := by simp [hc]
  clear hs hl hp hc h3 cf hsz
  go_enter Tryz.func102, Tryz.ntmps102
  go_wp2_with fail
  go_quiet (fail)
  go_wp2_with fail
  go_ret
  exact ⟨rfl, by have := (HR.out.drewN nq).pos ((p + 1 : Nat) : Int); simpa using this, rfl, rfl, rfl, by simp [World.setCell], fun k _ hk => Below.heap_setCell _ _ _ _ (fun e => hk (by rw [e]))⟩
end
theorem ix_0 (w : World) : (Instr.index 162 (.agg #[.int .u8 34, .int .u8 34, .int .u8 92, .int .u8 92, .int .u8 47, .int .u8 47, .int .u8 98, .int .u8 8, .int .u8 102, .int .u8 12, .int .u8 110, .int .u8 10, .int .u8 114, .int .u8 13, .int .u8 116, .int .u8 9]) (.int .i64 0)).run Tryz.prog w = .ok (.agg #[.int .u8 34, .int .u8 34]) w := by kernel_rfl
theorem ix_1 (w : World) : (Instr.index 162 (.agg #[.int .u8 34, .int .u8 34, .int .u8 92, .int .u8 92, .int .u8 47, .int .u8 47, .int .u8 98, .int .u8 8, .int .u8 102, .int .u8 12, .int .u8 110, .int .u8 10, .int .u8 114, .int .u8 13, .int .u8 116, .int .u8 9]) (.int .i64 1)).run Tryz.prog w = .ok (.agg #[.int .u8 92, .int .u8 92]) w := by kernel_rfl
theorem ix_2 (w : World) : (Instr.index 162 (.agg #[.int .u8 34, .int .u8 34, .int .u8 92, .int .u8 92, .int .u8 47, .int .u8 47, .int .u8 98, .int .u8 8, .int .u8 102, .int .u8 12, .int .u8 110, .int .u8 10, .int .u8 114, .int .u8 13, .int .u8 116, .int .u8 9]) (.int .i64 2)).run Tryz.prog w = .ok (.agg #[.int .u8 47, .int .u8 47]) w := by kernel_rfl
theorem ix_3 (w : World) : (Instr.index 162 (.agg #[.int .u8 34, .int .u8 34, .int .u8 92, .int .u8 92, .int .u8 47, .int .u8 47, .int .u8 98, .int .u8 8, .int .u8 102, .int .u8 12, .int .u8 110, .int .u8 10, .int .u8 114, .int .u8 13, .int .u8 116, .int .u8 9]) (.int .i64 3)).run Tryz.prog w = .ok (.agg #[.int .u8 98, .int .u8 8]) w := by kernel_rfl
theorem ix_4 (w : World) : (Instr.index 162 (.agg #[.int .u8 34, .int .u8 34, .int .u8 92, .int .u8 92, .int .u8 47, .int .u8 47, .int .u8 98, .int .u8 8, .int .u8 102, .int .u8 12, .int .u8 110, .int .u8 10, .int .u8 114, .int .u8 13, .int .u8 116, .int .u8 9]) (.int .i64 4)).run Tryz.prog w = .ok (.agg #[.int .u8 102, .int .u8 12]) w := by kernel_rfl
theorem ix_5 (w : World) : (Instr.index 162 (.agg #[.int .u8 34, .int .u8 34, .int .u8 92, .int .u8 92, .int .u8 47, .int .u8 47, .int .u8 98, .int .u8 8, .int .u8 102, .int .u8 12, .int .u8 110, .int .u8 10, .int .u8 114, .int .u8 13, .int .u8 116, .int .u8 9]) (.int .i64 5)).run Tryz.prog w = .ok (.agg #[.int .u8 110, .int .u8 10]) w := by kernel_rfl
theorem ix_6 (w : World) : (Instr.index 162 (.agg #[.int .u8 34, .int .u8 34, .int .u8 92, .int .u8 92, .int .u8 47, .int .u8 47, .int .u8 98, .int .u8 8, .int .u8 102, .int .u8 12, .int .u8 110, .int .u8 10, .int .u8 114, .int .u8 13, .int .u8 116, .int .u8 9]) (.int .i64 6)).run Tryz.prog w = .ok (.agg #[.int .u8 114, .int .u8 13]) w := by kernel_rfl
theorem ix_7 (w : World) : (Instr.index 162 (.agg #[.int .u8 34, .int .u8 34, .int .u8 92, .int .u8 92, .int .u8 47, .int .u8 47, .int .u8 98, .int .u8 8, .int .u8 102, .int .u8 12, .int .u8 110, .int .u8 10, .int .u8 114, .int .u8 13, .int .u8 116, .int .u8 9]) (.int .i64 7)).run Tryz.prog w = .ok (.agg #[.int .u8 116, .int .u8 9]) w := by kernel_rfl
theorem byt_one {w : World} (c : UInt8) (x : Int) (hx : x = (c.toNat : Int)) (o : Obj) (h : o = .cells #[.int .u8 x] 5) : Byt (w.alloc o).drew (w.alloc o).drew.heap.size (some ⟨w.heap.size, 0, none⟩) [c] := by
  subst h; subst hx
  refine fun _ => ⟨w.heap.size, 0, rfl, by show _ < (w.alloc _).heap.size; simp, fun k hk => ?_⟩
  obtain rfl : k = 0 := by simpa using hk
  show (w.alloc _).cell? _ = _
  rw [World.cell?_alloc_at _ _ _ _ rfl]
  simp [bt]
/-- How far the table has been looked through. -/
def ERel (W : World) (b : Nat) (s : ByteArray) (l : List UInt8) (q : Nat) (t : List UInt8) (k : Nat) (wr : World) : Prop :=
  RS W b s wr ((q + 1 : Nat) : Int) t ∧ ∀ j, j < k → tkB l (q + 1) (([34, 92, 47, 98, 102, 110, 114, 116] : List Int).getD j 0) = false
section
variable {W w : World} {b : Nat} {s : ByteArray} {q : Nat} {t l : List UInt8}
theorem ERel.next {k : Nat} {c : Int} {wr w' : World} (h : ERel W b s l q t k wr) (hc : ([34, 92, 47, 98, 102, 110, 114, 116] : List Int).getD k 0 = c) (hn : tkB l (q + 1) c = false) (hR : RS W b s w' ((q + 1 : Nat) : Int) t) : ERel W b s l q t (k + 1) w' :=
  ⟨hR, fun j hj => by
    rcases Nat.lt_or_ge j k with h1 | h1
    · exact h.2 j h1
    · obtain rfl : j = k := by omega
      rw [hc]; exact hn⟩
set_option maxHeartbeats 4000000 in
set_option maxRecDepth 100000 in
theorem escape_any (h : RS W b s w ((q + 1 : Nat) : Int) t) (hs : s = txt l) (hl : l.length ≤ 1000000) (h1 : tkB l q 92 = true) (ht : t.length ≤ 4 * q) (hH : Heads W) (hS : Shorts W) (hz : 3 < W.heap.size) :
    Calls Tryz.prog 104 #[.pointer (some ⟨b, 0, none⟩)] w (EscPost W b s l q t) := by
  obtain ⟨i0, hi, hz0, hz1, hz2⟩ := info_parts (show (Tryz.prog.info? 5).map (fun i => (i.zero, i.size, i.bytes)) = some (some (.int .u8 0), 1, 1) by kernel_rfl)
  have HR := Lib.hid h
  have HS := Lib.hid hs
  have HL := Lib.hid hl
  have H1 := Lib.hid h1
  have HT := Lib.hid ht
  have HH := Lib.hid hH
  have HQ := Lib.hid (tkB_lt h1)
  have SH0 := Lib.hid hS
  have htl : t.length ≤ 4000000 := by have := tkB_lt h1; omega
  clear h hs hl h1 ht hH hS
  cases h2 : tkB l (q + 1) 117
  · have H2 := Lib.hid h2
    clear h2
    go_enter Tryz.func104, Tryz.ntmps104
    go_wp2_with fail
    refine (take_n 117 HR.out HS.out HL.out HQ.out H2.out).mono ?_
    rintro e w1 ⟨rfl, R1⟩
    have HR1 := Lib.hid R1
    have E0 : ERel W b s l q t 0 w1 := ⟨R1, fun j hj => by omega⟩
    have s1 : Shorts w1 := SH0.out.old (by omega) R1.1
    obtain ⟨z0, z1, z2, z3, z4, z5, z6, z7, z8, z9, z10, z11, z12, z13, z14, z15⟩ := s1
    clear R1
    go_wp2_with fail
    clear z0 z1 z2 z3 z4 z5 z6 z7 z8 z9 z10 z11 z12 z13 z14 z15
    go_loopw [10] (fun i wr => ∃ k : Nat, k ≤ 8 ∧ i = .int .i64 k ∧ ERel W b s l q t k wr) (fun i _ => 8 - (intOf i).toNat)
    case atStart => exact ⟨0, Nat.zero_le _, rfl, E0⟩
    case round =>
      obtain ⟨k, hk, rfl, R⟩ := hrel
      clear E0
      have HE := Lib.hid R
      have HRr := Lib.hid R.1
      obtain ⟨_, _, _, h30, _⟩ := R.1
      have hbl := lt_of_block h30
      clear R h30
      rcases (show k = 0 ∨ k = 1 ∨ k = 2 ∨ k = 3 ∨ k = 4 ∨ k = 5 ∨ k = 6 ∨ k = 7 ∨ k = 8 by omega) with rfl | rfl | rfl | rfl | rfl | rfl | rfl | rfl | rfl
      · have hix := ix_0 wr
        cases h3 : tkB l (q + 1) 34
        · have H3 := Lib.hid h3
          clear h3
          go_wp2_with fail
          refine (take_n 34 (HRr.out.alloc _) HS.out HL.out HQ.out H3.out).mono ?_
          rintro e w2 ⟨rfl, R2⟩
          have N := Lib.hid (HE.out.next rfl H3.out R2)
          clear R2
          go_wp2_with fail
          go_roundw
          case rel => exact ⟨1, by omega, by go_num, N.out⟩
          case measure => simp [intOf]
        · have H3 := Lib.hid h3
          have TK := Lib.hid (tok_short_at (c := 34) (b := 34) H1.out h3 (by decide))
          have HQ2 := Lib.hid (tkB_lt h3)
          clear h3
          go_wp2_with fail
          refine (take_yg 34 (HRr.out.alloc _) HS.out HL.out H3.out).mono ?_
          rintro e w2 ⟨rfl, R2, hg⟩
          have y0 := hg.cell (a := ⟨wr.heap.size, 0, none⟩) (v := .int .u8 34) (by go_simp) (by simp; omega)
          have y1 := hg.cell (a := ⟨wr.heap.size, 1, none⟩) (v := .int .u8 34) (by go_simp) (by simp; omega)
          obtain ⟨v, RV2⟩ := R2.rv
          have HV := Lib.hid RV2
          have HA := Lib.hid ((RV2.alloc (.cells #[.int .u8 34] 5)).drew)
          have HB := Lib.hid (byt_one (w := w2) 34 34 (by decide) _ rfl)
          obtain ⟨c0, c1, c2, cf⟩ := RV2.cells
          have f2 := cf 2
          have ca := (RV2.alloc (.cells #[.int .u8 34] 5)).cells.2.2.1
          clear cf RV2 R2 hg
          go_wp2_with fail
          go_region_law (first
            | (refine step_app rfl (.tmp 21) (.tmp 24) 22 rfl W.heap.size 5 i0 (.int .u8 0) 1 Tryz.underlying22 hi hz0 hz1 hz2 rfl v t.length (bytV t) rfl HA.out.2.2.2 (some ⟨w2.heap.size, 0, none⟩) 1 1 _ [34] rfl rfl HB.out (fun h => by cases h) (by unfold maxLen; omega) (by omega) HA.out.1.size ?_; intro v' w5 hown5 hg5; obtain ⟨⟨A', n', cp', rfl⟩, h5, R5⟩ := RV.text HA.out hown5 hg5; obtain ⟨c0', c1', c2', cf'⟩ := rd_cells h5; have f2' := cf' 2; clear cf' h5 hown5 hg5))
          all_goals (have HR5 := Lib.hid R5; clear R5)
          all_goals go_wp2_with fail
          all_goals go_ret
          all_goals exact .inr ⟨2, [34], TK.out, by omega, HQ2.out, by simp, rfl, HR5.out⟩
      · have hix := ix_1 wr
        cases h3 : tkB l (q + 1) 92
        · have H3 := Lib.hid h3
          clear h3
          go_wp2_with fail
          refine (take_n 92 (HRr.out.alloc _) HS.out HL.out HQ.out H3.out).mono ?_
          rintro e w2 ⟨rfl, R2⟩
          have N := Lib.hid (HE.out.next rfl H3.out R2)
          clear R2
          go_wp2_with fail
          go_roundw
          case rel => exact ⟨2, by omega, by go_num, N.out⟩
          case measure => simp [intOf]
        · have H3 := Lib.hid h3
          have TK := Lib.hid (tok_short_at (c := 92) (b := 92) H1.out h3 (by decide))
          have HQ2 := Lib.hid (tkB_lt h3)
          clear h3
          go_wp2_with fail
          refine (take_yg 92 (HRr.out.alloc _) HS.out HL.out H3.out).mono ?_
          rintro e w2 ⟨rfl, R2, hg⟩
          have y0 := hg.cell (a := ⟨wr.heap.size, 0, none⟩) (v := .int .u8 92) (by go_simp) (by simp; omega)
          have y1 := hg.cell (a := ⟨wr.heap.size, 1, none⟩) (v := .int .u8 92) (by go_simp) (by simp; omega)
          obtain ⟨v, RV2⟩ := R2.rv
          have HV := Lib.hid RV2
          have HA := Lib.hid ((RV2.alloc (.cells #[.int .u8 92] 5)).drew)
          have HB := Lib.hid (byt_one (w := w2) 92 92 (by decide) _ rfl)
          obtain ⟨c0, c1, c2, cf⟩ := RV2.cells
          have f2 := cf 2
          have ca := (RV2.alloc (.cells #[.int .u8 92] 5)).cells.2.2.1
          clear cf RV2 R2 hg
          go_wp2_with fail
          go_region_law (first
            | (refine step_app rfl (.tmp 21) (.tmp 24) 22 rfl W.heap.size 5 i0 (.int .u8 0) 1 Tryz.underlying22 hi hz0 hz1 hz2 rfl v t.length (bytV t) rfl HA.out.2.2.2 (some ⟨w2.heap.size, 0, none⟩) 1 1 _ [92] rfl rfl HB.out (fun h => by cases h) (by unfold maxLen; omega) (by omega) HA.out.1.size ?_; intro v' w5 hown5 hg5; obtain ⟨⟨A', n', cp', rfl⟩, h5, R5⟩ := RV.text HA.out hown5 hg5; obtain ⟨c0', c1', c2', cf'⟩ := rd_cells h5; have f2' := cf' 2; clear cf' h5 hown5 hg5))
          all_goals (have HR5 := Lib.hid R5; clear R5)
          all_goals go_wp2_with fail
          all_goals go_ret
          all_goals exact .inr ⟨2, [92], TK.out, by omega, HQ2.out, by simp, rfl, HR5.out⟩
      · have hix := ix_2 wr
        cases h3 : tkB l (q + 1) 47
        · have H3 := Lib.hid h3
          clear h3
          go_wp2_with fail
          refine (take_n 47 (HRr.out.alloc _) HS.out HL.out HQ.out H3.out).mono ?_
          rintro e w2 ⟨rfl, R2⟩
          have N := Lib.hid (HE.out.next rfl H3.out R2)
          clear R2
          go_wp2_with fail
          go_roundw
          case rel => exact ⟨3, by omega, by go_num, N.out⟩
          case measure => simp [intOf]
        · have H3 := Lib.hid h3
          have TK := Lib.hid (tok_short_at (c := 47) (b := 47) H1.out h3 (by decide))
          have HQ2 := Lib.hid (tkB_lt h3)
          clear h3
          go_wp2_with fail
          refine (take_yg 47 (HRr.out.alloc _) HS.out HL.out H3.out).mono ?_
          rintro e w2 ⟨rfl, R2, hg⟩
          have y0 := hg.cell (a := ⟨wr.heap.size, 0, none⟩) (v := .int .u8 47) (by go_simp) (by simp; omega)
          have y1 := hg.cell (a := ⟨wr.heap.size, 1, none⟩) (v := .int .u8 47) (by go_simp) (by simp; omega)
          obtain ⟨v, RV2⟩ := R2.rv
          have HV := Lib.hid RV2
          have HA := Lib.hid ((RV2.alloc (.cells #[.int .u8 47] 5)).drew)
          have HB := Lib.hid (byt_one (w := w2) 47 47 (by decide) _ rfl)
          obtain ⟨c0, c1, c2, cf⟩ := RV2.cells
          have f2 := cf 2
          have ca := (RV2.alloc (.cells #[.int .u8 47] 5)).cells.2.2.1
          clear cf RV2 R2 hg
          go_wp2_with fail
          go_region_law (first
            | (refine step_app rfl (.tmp 21) (.tmp 24) 22 rfl W.heap.size 5 i0 (.int .u8 0) 1 Tryz.underlying22 hi hz0 hz1 hz2 rfl v t.length (bytV t) rfl HA.out.2.2.2 (some ⟨w2.heap.size, 0, none⟩) 1 1 _ [47] rfl rfl HB.out (fun h => by cases h) (by unfold maxLen; omega) (by omega) HA.out.1.size ?_; intro v' w5 hown5 hg5; obtain ⟨⟨A', n', cp', rfl⟩, h5, R5⟩ := RV.text HA.out hown5 hg5; obtain ⟨c0', c1', c2', cf'⟩ := rd_cells h5; have f2' := cf' 2; clear cf' h5 hown5 hg5))
          all_goals (have HR5 := Lib.hid R5; clear R5)
          all_goals go_wp2_with fail
          all_goals go_ret
          all_goals exact .inr ⟨2, [47], TK.out, by omega, HQ2.out, by simp, rfl, HR5.out⟩
      · have hix := ix_3 wr
        cases h3 : tkB l (q + 1) 98
        · have H3 := Lib.hid h3
          clear h3
          go_wp2_with fail
          refine (take_n 98 (HRr.out.alloc _) HS.out HL.out HQ.out H3.out).mono ?_
          rintro e w2 ⟨rfl, R2⟩
          have N := Lib.hid (HE.out.next rfl H3.out R2)
          clear R2
          go_wp2_with fail
          go_roundw
          case rel => exact ⟨4, by omega, by go_num, N.out⟩
          case measure => simp [intOf]
        · have H3 := Lib.hid h3
          have TK := Lib.hid (tok_short_at (c := 98) (b := 8) H1.out h3 (by decide))
          have HQ2 := Lib.hid (tkB_lt h3)
          clear h3
          go_wp2_with fail
          refine (take_yg 98 (HRr.out.alloc _) HS.out HL.out H3.out).mono ?_
          rintro e w2 ⟨rfl, R2, hg⟩
          have y0 := hg.cell (a := ⟨wr.heap.size, 0, none⟩) (v := .int .u8 98) (by go_simp) (by simp; omega)
          have y1 := hg.cell (a := ⟨wr.heap.size, 1, none⟩) (v := .int .u8 8) (by go_simp) (by simp; omega)
          obtain ⟨v, RV2⟩ := R2.rv
          have HV := Lib.hid RV2
          have HA := Lib.hid ((RV2.alloc (.cells #[.int .u8 8] 5)).drew)
          have HB := Lib.hid (byt_one (w := w2) 8 8 (by decide) _ rfl)
          obtain ⟨c0, c1, c2, cf⟩ := RV2.cells
          have f2 := cf 2
          have ca := (RV2.alloc (.cells #[.int .u8 8] 5)).cells.2.2.1
          clear cf RV2 R2 hg
          go_wp2_with fail
          go_region_law (first
            | (refine step_app rfl (.tmp 21) (.tmp 24) 22 rfl W.heap.size 5 i0 (.int .u8 0) 1 Tryz.underlying22 hi hz0 hz1 hz2 rfl v t.length (bytV t) rfl HA.out.2.2.2 (some ⟨w2.heap.size, 0, none⟩) 1 1 _ [8] rfl rfl HB.out (fun h => by cases h) (by unfold maxLen; omega) (by omega) HA.out.1.size ?_; intro v' w5 hown5 hg5; obtain ⟨⟨A', n', cp', rfl⟩, h5, R5⟩ := RV.text HA.out hown5 hg5; obtain ⟨c0', c1', c2', cf'⟩ := rd_cells h5; have f2' := cf' 2; clear cf' h5 hown5 hg5))
          all_goals (have HR5 := Lib.hid R5; clear R5)
          all_goals go_wp2_with fail
          all_goals go_ret
          all_goals exact .inr ⟨2, [8], TK.out, by omega, HQ2.out, by simp, rfl, HR5.out⟩
      · have hix := ix_4 wr
        cases h3 : tkB l (q + 1) 102
        · have H3 := Lib.hid h3
          clear h3
          go_wp2_with fail
          refine (take_n 102 (HRr.out.alloc _) HS.out HL.out HQ.out H3.out).mono ?_
          rintro e w2 ⟨rfl, R2⟩
          have N := Lib.hid (HE.out.next rfl H3.out R2)
          clear R2
          go_wp2_with fail
          go_roundw
          case rel => exact ⟨5, by omega, by go_num, N.out⟩
          case measure => simp [intOf]
        · have H3 := Lib.hid h3
          have TK := Lib.hid (tok_short_at (c := 102) (b := 12) H1.out h3 (by decide))
          have HQ2 := Lib.hid (tkB_lt h3)
          clear h3
          go_wp2_with fail
          refine (take_yg 102 (HRr.out.alloc _) HS.out HL.out H3.out).mono ?_
          rintro e w2 ⟨rfl, R2, hg⟩
          have y0 := hg.cell (a := ⟨wr.heap.size, 0, none⟩) (v := .int .u8 102) (by go_simp) (by simp; omega)
          have y1 := hg.cell (a := ⟨wr.heap.size, 1, none⟩) (v := .int .u8 12) (by go_simp) (by simp; omega)
          obtain ⟨v, RV2⟩ := R2.rv
          have HV := Lib.hid RV2
          have HA := Lib.hid ((RV2.alloc (.cells #[.int .u8 12] 5)).drew)
          have HB := Lib.hid (byt_one (w := w2) 12 12 (by decide) _ rfl)
          obtain ⟨c0, c1, c2, cf⟩ := RV2.cells
          have f2 := cf 2
          have ca := (RV2.alloc (.cells #[.int .u8 12] 5)).cells.2.2.1
          clear cf RV2 R2 hg
          go_wp2_with fail
          go_region_law (first
            | (refine step_app rfl (.tmp 21) (.tmp 24) 22 rfl W.heap.size 5 i0 (.int .u8 0) 1 Tryz.underlying22 hi hz0 hz1 hz2 rfl v t.length (bytV t) rfl HA.out.2.2.2 (some ⟨w2.heap.size, 0, none⟩) 1 1 _ [12] rfl rfl HB.out (fun h => by cases h) (by unfold maxLen; omega) (by omega) HA.out.1.size ?_; intro v' w5 hown5 hg5; obtain ⟨⟨A', n', cp', rfl⟩, h5, R5⟩ := RV.text HA.out hown5 hg5; obtain ⟨c0', c1', c2', cf'⟩ := rd_cells h5; have f2' := cf' 2; clear cf' h5 hown5 hg5))
          all_goals (have HR5 := Lib.hid R5; clear R5)
          all_goals go_wp2_with fail
          all_goals go_ret
          all_goals exact .inr ⟨2, [12], TK.out, by omega, HQ2.out, by simp, rfl, HR5.out⟩
      · have hix := ix_5 wr
        cases h3 : tkB l (q + 1) 110
        · have H3 := Lib.hid h3
          clear h3
          go_wp2_with fail
          refine (take_n 110 (HRr.out.alloc _) HS.out HL.out HQ.out H3.out).mono ?_
          rintro e w2 ⟨rfl, R2⟩
          have N := Lib.hid (HE.out.next rfl H3.out R2)
          clear R2
          go_wp2_with fail
          go_roundw
          case rel => exact ⟨6, by omega, by go_num, N.out⟩
          case measure => simp [intOf]
        · have H3 := Lib.hid h3
          have TK := Lib.hid (tok_short_at (c := 110) (b := 10) H1.out h3 (by decide))
          have HQ2 := Lib.hid (tkB_lt h3)
          clear h3
          go_wp2_with fail
          refine (take_yg 110 (HRr.out.alloc _) HS.out HL.out H3.out).mono ?_
          rintro e w2 ⟨rfl, R2, hg⟩
          have y0 := hg.cell (a := ⟨wr.heap.size, 0, none⟩) (v := .int .u8 110) (by go_simp) (by simp; omega)
          have y1 := hg.cell (a := ⟨wr.heap.size, 1, none⟩) (v := .int .u8 10) (by go_simp) (by simp; omega)
          obtain ⟨v, RV2⟩ := R2.rv
          have HV := Lib.hid RV2
          have HA := Lib.hid ((RV2.alloc (.cells #[.int .u8 10] 5)).drew)
          have HB := Lib.hid (byt_one (w := w2) 10 10 (by decide) _ rfl)
          obtain ⟨c0, c1, c2, cf⟩ := RV2.cells
          have f2 := cf 2
          have ca := (RV2.alloc (.cells #[.int .u8 10] 5)).cells.2.2.1
          clear cf RV2 R2 hg
          go_wp2_with fail
          go_region_law (first
            | (refine step_app rfl (.tmp 21) (.tmp 24) 22 rfl W.heap.size 5 i0 (.int .u8 0) 1 Tryz.underlying22 hi hz0 hz1 hz2 rfl v t.length (bytV t) rfl HA.out.2.2.2 (some ⟨w2.heap.size, 0, none⟩) 1 1 _ [10] rfl rfl HB.out (fun h => by cases h) (by unfold maxLen; omega) (by omega) HA.out.1.size ?_; intro v' w5 hown5 hg5; obtain ⟨⟨A', n', cp', rfl⟩, h5, R5⟩ := RV.text HA.out hown5 hg5; obtain ⟨c0', c1', c2', cf'⟩ := rd_cells h5; have f2' := cf' 2; clear cf' h5 hown5 hg5))
          all_goals (have HR5 := Lib.hid R5; clear R5)
          all_goals go_wp2_with fail
          all_goals go_ret
          all_goals exact .inr ⟨2, [10], TK.out, by omega, HQ2.out, by simp, rfl, HR5.out⟩
      · have hix := ix_6 wr
        cases h3 : tkB l (q + 1) 114
        · have H3 := Lib.hid h3
          clear h3
          go_wp2_with fail
          refine (take_n 114 (HRr.out.alloc _) HS.out HL.out HQ.out H3.out).mono ?_
          rintro e w2 ⟨rfl, R2⟩
          have N := Lib.hid (HE.out.next rfl H3.out R2)
          clear R2
          go_wp2_with fail
          go_roundw
          case rel => exact ⟨7, by omega, by go_num, N.out⟩
          case measure => simp [intOf]
        · have H3 := Lib.hid h3
          have TK := Lib.hid (tok_short_at (c := 114) (b := 13) H1.out h3 (by decide))
          have HQ2 := Lib.hid (tkB_lt h3)
          clear h3
          go_wp2_with fail
          refine (take_yg 114 (HRr.out.alloc _) HS.out HL.out H3.out).mono ?_
          rintro e w2 ⟨rfl, R2, hg⟩
          have y0 := hg.cell (a := ⟨wr.heap.size, 0, none⟩) (v := .int .u8 114) (by go_simp) (by simp; omega)
          have y1 := hg.cell (a := ⟨wr.heap.size, 1, none⟩) (v := .int .u8 13) (by go_simp) (by simp; omega)
          obtain ⟨v, RV2⟩ := R2.rv
          have HV := Lib.hid RV2
          have HA := Lib.hid ((RV2.alloc (.cells #[.int .u8 13] 5)).drew)
          have HB := Lib.hid (byt_one (w := w2) 13 13 (by decide) _ rfl)
          obtain ⟨c0, c1, c2, cf⟩ := RV2.cells
          have f2 := cf 2
          have ca := (RV2.alloc (.cells #[.int .u8 13] 5)).cells.2.2.1
          clear cf RV2 R2 hg
          go_wp2_with fail
          go_region_law (first
            | (refine step_app rfl (.tmp 21) (.tmp 24) 22 rfl W.heap.size 5 i0 (.int .u8 0) 1 Tryz.underlying22 hi hz0 hz1 hz2 rfl v t.length (bytV t) rfl HA.out.2.2.2 (some ⟨w2.heap.size, 0, none⟩) 1 1 _ [13] rfl rfl HB.out (fun h => by cases h) (by unfold maxLen; omega) (by omega) HA.out.1.size ?_; intro v' w5 hown5 hg5; obtain ⟨⟨A', n', cp', rfl⟩, h5, R5⟩ := RV.text HA.out hown5 hg5; obtain ⟨c0', c1', c2', cf'⟩ := rd_cells h5; have f2' := cf' 2; clear cf' h5 hown5 hg5))
          all_goals (have HR5 := Lib.hid R5; clear R5)
          all_goals go_wp2_with fail
          all_goals go_ret
          all_goals exact .inr ⟨2, [13], TK.out, by omega, HQ2.out, by simp, rfl, HR5.out⟩
      · have hix := ix_7 wr
        cases h3 : tkB l (q + 1) 116
        · have H3 := Lib.hid h3
          clear h3
          go_wp2_with fail
          refine (take_n 116 (HRr.out.alloc _) HS.out HL.out HQ.out H3.out).mono ?_
          rintro e w2 ⟨rfl, R2⟩
          have N := Lib.hid (HE.out.next rfl H3.out R2)
          clear R2
          go_wp2_with fail
          go_roundw
          case rel => exact ⟨8, by omega, by go_num, N.out⟩
          case measure => simp [intOf]
        · have H3 := Lib.hid h3
          have TK := Lib.hid (tok_short_at (c := 116) (b := 9) H1.out h3 (by decide))
          have HQ2 := Lib.hid (tkB_lt h3)
          clear h3
          go_wp2_with fail
          refine (take_yg 116 (HRr.out.alloc _) HS.out HL.out H3.out).mono ?_
          rintro e w2 ⟨rfl, R2, hg⟩
          have y0 := hg.cell (a := ⟨wr.heap.size, 0, none⟩) (v := .int .u8 116) (by go_simp) (by simp; omega)
          have y1 := hg.cell (a := ⟨wr.heap.size, 1, none⟩) (v := .int .u8 9) (by go_simp) (by simp; omega)
          obtain ⟨v, RV2⟩ := R2.rv
          have HV := Lib.hid RV2
          have HA := Lib.hid ((RV2.alloc (.cells #[.int .u8 9] 5)).drew)
          have HB := Lib.hid (byt_one (w := w2) 9 9 (by decide) _ rfl)
          obtain ⟨c0, c1, c2, cf⟩ := RV2.cells
          have f2 := cf 2
          have ca := (RV2.alloc (.cells #[.int .u8 9] 5)).cells.2.2.1
          clear cf RV2 R2 hg
          go_wp2_with fail
          go_region_law (first
            | (refine step_app rfl (.tmp 21) (.tmp 24) 22 rfl W.heap.size 5 i0 (.int .u8 0) 1 Tryz.underlying22 hi hz0 hz1 hz2 rfl v t.length (bytV t) rfl HA.out.2.2.2 (some ⟨w2.heap.size, 0, none⟩) 1 1 _ [9] rfl rfl HB.out (fun h => by cases h) (by unfold maxLen; omega) (by omega) HA.out.1.size ?_; intro v' w5 hown5 hg5; obtain ⟨⟨A', n', cp', rfl⟩, h5, R5⟩ := RV.text HA.out hown5 hg5; obtain ⟨c0', c1', c2', cf'⟩ := rd_cells h5; have f2' := cf' 2; clear cf' h5 hown5 hg5))
          all_goals (have HR5 := Lib.hid R5; clear R5)
          all_goals go_wp2_with fail
          all_goals go_ret
          all_goals exact .inr ⟨2, [9], TK.out, by omega, HQ2.out, by simp, rfl, HR5.out⟩
      · go_wp2_with fail
        go_ret
        refine .inl ⟨false, 1, tok_esc_none H1.out H2.out (fun c b hc => ?_), rfl, HE.out.1⟩
        have hx := HE.out.2
        rcases short_in hc with rfl | rfl | rfl | rfl | rfl | rfl | rfl | rfl
        · exact hx 0 (by omega)
        · exact hx 1 (by omega)
        · exact hx 2 (by omega)
        · exact hx 3 (by omega)
        · exact hx 4 (by omega)
        · exact hx 5 (by omega)
        · exact hx 6 (by omega)
        · exact hx 7 (by omega)
  · have H2 := Lib.hid h2
    clear h2
    go_enter Tryz.func104, Tryz.ntmps104
    go_wp2_with fail
    refine (take_y 117 HR.out HS.out HL.out H2.out).mono ?_
    rintro e w1 ⟨rfl, R1⟩
    have HR1 := Lib.hid R1
    clear R1
    go_wp2_with fail
    refine (numbered_any HR1.out HS.out HL.out H1.out H2.out HT.out HH.out hz).mono ?_
    rintro e w2 (⟨hf, a, g1, rfl, g2⟩ | ⟨k, u, g1, g2, g3, g4, rfl, g5⟩)
    · have G1 := Lib.hid g1
      have G2 := Lib.hid g2
      clear g1 g2
      cases hf
      all_goals go_wp2_with fail
      all_goals go_ret
      · exact .inl ⟨false, a, G1.out, rfl, G2.out⟩
      · exact .inl ⟨true, a, G1.out, rfl, G2.out⟩
    · have G : Hid (EscPost W b s l q t (.returned (.int .i64 0)) w2) := .inr ⟨k, u, g1, g2, g3, g4, rfl, g5⟩
      clear g1 g2 g3 g4 g5
      go_wp2_with fail
      go_ret
      exact G.out
end
end Go.Proofs.YtdclhepjoifpiaaGreatDoor
/- All of a string, read by the reader. -/
namespace Go.Proofs.YtdclhepjoifpiaaGreatDoor
open Go.RowKit

theorem body_plain (l : List UInt8) (k : Nat) : Qu.body (l.drop k) = (Qu.body (l.drop (prn l k))).pre (prn l k - k) ((l.take (prn l k)).drop k) := by
  by_cases h : k < l.length ∧ plnI (bt l k) = true
  · obtain ⟨h1, h2⟩ := h
    have ih := body_plain l (k + 1)
    have hge := prn_ge l (k + 1)
    rw [← prn_on h1 h2] at ih hge
    obtain ⟨c, hc, hb⟩ := drop_at h1
    have hp : 32 ≤ bt l k ∧ bt l k ≠ 34 ∧ bt l k ≠ 92 := by simpa [plnI] using h2
    rw [hb] at hp
    have e : Qu.tok (l.drop k) = .go 1 [c] (l.drop (k + 1)) := by
      rw [hc, Qu.tok]
      have : Qu.un (c :: l.drop (k + 1)) = .unit 1 (.byte c) (l.drop (k + 1)) := by
        simp only [Qu.un]
        rw [if_neg, if_neg, if_neg]
        · omega
        · rintro rfl; exact hp.2.2 (by decide)
        · rintro rfl; exact hp.2.1 (by decide)
      rw [this]
    have hq : prn l k - k = 1 + (prn l k - (k + 1)) := by omega
    have ht : (l.take (prn l k)).drop k = [c] ++ (l.take (prn l k)).drop (k + 1) := by
      have hl : k < (l.take (prn l k)).length := by simp; omega
      rw [List.drop_eq_getElem_cons hl]
      have : (l.take (prn l k))[k] = c := by
        rw [List.getElem_take]
        have := List.drop_eq_getElem_cons h1
        rw [hc] at this
        injection this with this _
        exact this.symm
      rw [this]; rfl
    rw [Qu.body_go e, ih, Qu.pre_pre, hq, ht]
  · have e := prn_end h
    rw [e, Nat.sub_self]
    have : (l.take k).drop k = [] := by simp
    rw [this]
    cases Qu.body (l.drop k) <;> simp [Qu.Res.pre]
termination_by l.length - k
theorem prn_le {l : List UInt8} {k : Nat} (h : k ≤ l.length) : prn l k ≤ l.length := by
  rw [prn]; split
  · rename_i hh; exact prn_le (by omega)
  · exact h
termination_by l.length - k
theorem prn_prn (l : List UInt8) (k : Nat) : prn l (prn l k) = prn l k := by
  by_cases h : k < l.length ∧ plnI (bt l k) = true
  · have := prn_prn l (k + 1)
    rw [prn_on h.1 h.2]; exact this
  · rw [prn_end h, prn_end h]
termination_by l.length - k
theorem tok_none {l : List UInt8} {k : Nat} (hp : ¬ k < prn l k) (h92 : tkB l k 92 = false) (h34 : tkB l k 34 = false) : Qu.tok (l.drop k) = .stop (.bad false 0) := by
  have : Qu.un (l.drop k) = .bad 0 := by
    rcases Nat.lt_or_ge k l.length with h | h
    · obtain ⟨c, hc, hb⟩ := drop_at h
      have hn : ¬ (k < l.length ∧ plnI (bt l k) = true) := fun hh => hp (by rw [prn_on hh.1 hh.2]; exact prn_ge l (k + 1))
      have n1 : bt l k ≠ 92 := by intro e; rw [tkB, e] at h92; simp [h] at h92
      have n2 : bt l k ≠ 34 := by intro e; rw [tkB, e] at h34; simp [h] at h34
      have n3 : ¬ 32 ≤ bt l k := fun e => hn ⟨h, by simp [plnI, e, n1, n2]⟩
      rw [hc]
      rw [hb] at n1 n2 n3
      simp only [Qu.un]
      rw [if_neg, if_neg, if_pos]
      · omega
      · rintro rfl; exact n1 (by decide)
      · rintro rfl; exact n2 (by decide)
    · rw [List.drop_eq_nil_of_le h]; rfl
  rw [Qu.tok, this]
theorem tok_mark_nil : Qu.tok [34] = .stop (.ok []) := by rfl
theorem tok_mark_cons (c : UInt8) (r : List UInt8) : Qu.tok (34 :: c :: r) = .stop (.bad false 1) := by rfl
theorem tok_mark {l : List UInt8} {k : Nat} (h : tkB l k 34 = true) : Qu.tok (l.drop k) = if k + 1 = l.length then .stop (.ok []) else .stop (.bad false 1) := by
  rw [tkB_drop (c := 34) h]
  have hl := tkB_lt h
  by_cases e : k + 1 = l.length
  · rw [if_pos e, e, List.drop_length]; exact tok_mark_nil
  · rw [if_neg e]
    obtain ⟨c, hc, _⟩ := drop_at (l := l) (q := k + 1) (by omega)
    rw [hc]; exact tok_mark_cons _ _
theorem rdq_start {l : List UInt8} (h : tkB l 0 34 = true) : Qu.rdq l = (Qu.body (l.drop 1)).pre 1 [] := by
  have := tkB_drop (c := 34) h
  rw [List.drop_zero] at this
  rw [this]; rfl
theorem rdq_not {l : List UInt8} (h : tkB l 0 34 = false) : Qu.rdq l = .bad false 0 := by
  unfold Qu.rdq
  split
  · rename_i r
    have := (drop_tkB (l := 34 :: r) (q := 0) (c := 34) (r := r) rfl).1
    rw [show (((34 : UInt8).toNat : Nat) : Int) = 34 by decide, h] at this
    cases this
  · rfl
/-- A region that draws its order, of which the head stands in one order: one step of it. -/
theorem head_step {P : Program} {ops : Array Oper} {Q : Exit → Act → World → Prop} {i fuel : Nat} {listed : Array Bool} {a : Act} {w : World} {o : Oper} (ho : ops[i]? = some o) (hr : Region.ready .any ops listed = [i])
    (h : ∀ K : Act → World → Prop, (∀ a w, wpAny P .any ops Q fuel (listed.setIfInBounds i true) a w → K a w) → if Region.wanted o (yielded ops a.tmps) = true then Oper.wp P o a w K Q else K (a.put o.dst undef) w) : wpAny P .any ops Q (fuel + 1) listed a w :=
  wpAny_ready hr (by simp) (AllReady.cons ho h AllReady.nil)
/-- The rest of it only reads: one walk. -/
theorem head_quiet {P : Program} {L : List Oper} {Q : Exit → Act → World → Prop} (k : Nat) {listed : Array Bool} {a : Act} {w : World} (hs : Region.noSelect L.toArray = true) (hB : Region.lexFrom .any L.toArray (L.drop k).length k listed = true)
    (h : wpQuiet P L.toArray (fun w' => ∃ n, w' = w.drewN n) (fun a' => ∀ w', (∃ n, w' = w.drewN n) → Q .normal a' w') (L.drop k) a) : wpAny P .any L.toArray Q (L.drop k).length listed a w :=
  wpAny_of_quiet (C := fun w' => ∃ n, w' = w.drewN n) (Q := fun a' => ∀ w', (∃ n, w' = w.drewN n) → Q .normal a' w') (fun _ w' hw' h => h w' hw') _ _ _ _ ⟨0, rfl⟩ (wpAnyQ_lex hs (L.drop k) k listed a (fun j => by simp) hB h)
/-- A label in a scope, and what leads to it. -/
theorem wp_scope_label {P : Program} {a : Act} {w : World} {Q : Exit → Act → World → Prop} {pre rest : Code} (l : Nat) (J : Act → World → Prop) (μ : Act → World → Nat) (hf : findLabel (pre.seq ((Code.label l).seq rest)) l = some (Code.seq .skip rest))
    (first : pre.wp P (Exit.then J (Exit.jump l J Q)) a w)
    (pass : ∀ a w, J a w → rest.wp P (Exit.jump l (fun a' w' => J a' w' ∧ μ a' w' < μ a w) Q) a w) : (Code.scope (pre.seq ((Code.label l).seq rest))).wp P Q a w := by
  refine wp_scope_jumps l J μ hf (wp_seq (wp_mono first fun e a w h => ?_)) (fun a w h => wp_seq (wp_skip (pass a w h)))
  cases e with
  | normal =>
    refine wp_seq (wp_label (wp_mono (pass a w h) fun e a' w' h' => ?_))
    cases e with
    | goto l' => exact ⟨h'.1, h'.2.1⟩
    | _ => exact h'
  | _ => exact h
def WholePost (W : World) (b : Nat) (s : ByteArray) (l : List UInt8) (e : Ending) (w' : World) : Prop :=
  (∃ t, Qu.rdq l = .ok t ∧ e = .returned (.int .i64 0) ∧ ∃ p : Nat, RS W b s w' p t) ∨
  (∃ hf a t, Qu.rdq l = .bad hf a ∧ e = .returned (.int .i64 (if hf = true then 6 else 3)) ∧ RS W b s w' (a : Int) t)
def JRel (W : World) (b : Nat) (s : ByteArray) (l : List UInt8) (k : Nat) (t : List UInt8) (w : World) : Prop :=
  RS W b s w (k : Int) t ∧ k ≤ l.length ∧ t.length ≤ 4 * k ∧ Qu.rdq l = (Qu.body (l.drop k)).pre k t
section
variable {W w : World} {b : Nat} {s : ByteArray} {l : List UInt8}
set_option maxHeartbeats 4000000 in
theorem whole_any (h : RS W b s w (0 : Nat) []) (hs : s = txt l) (hl : l.length ≤ 1000000) (hH : Heads W) (hS : Shorts W) (hz : 3 < W.heap.size) :
    Calls Tryz.prog 91 #[.pointer (some ⟨b, 0, none⟩)] w (WholePost W b s l) := by
  have HR := Lib.hid h
  have HS := Lib.hid hs
  have HL := Lib.hid hl
  have HH := Lib.hid hH
  have HSh := Lib.hid hS
  clear h hs hl hH hS
  go_enter Tryz.func91, Tryz.ntmps91
  go_wp2_with fail
  refine wp_scope_label 0 (fun a' w' => ∃ (k : Nat) (t : List UInt8) (u1 u3 u4 u5 u6 u7 u8 u9 u10 u11 u12 u13 u14 u15 u16 u17 u18 u19 u20 u21 u22 u23 u24 u25 u26 u27 u28 u29 u30 : Value), a' = { tmps := #[.pointer (some ⟨b, 0, none⟩), u1, .int .i64 0, u3, u4, u5, u6, u7, u8, u9, u10, u11, u12, u13, u14, u15, u16, u17, u18, u19, u20, u21, u22, u23, u24, u25, u26, u27, u28, u29, u30], defers := [] } ∧ JRel W b s l k t w') (fun _ w' => s.size - posOf b w') rfl ?_ ?_
  · cases h0 : tkB l 0 34
    · have H0 := Lib.hid h0
      clear h0
      go_wp2_with fail
      refine (take_n (p := 0) 34 HR.out HS.out HL.out (Nat.zero_le _) H0.out).mono ?_
      rintro e w1 ⟨rfl, R1⟩
      have HR1 := Lib.hid R1
      clear R1
      go_wp2_with fail
      simp only [Exit.jump]
      go_ret
      exact .inr ⟨false, 0, [], rdq_not H0.out, rfl, HR1.out⟩
    · have H0 := Lib.hid h0
      clear h0
      go_wp2_with fail
      refine (take_y (p := 0) 34 HR.out HS.out HL.out H0.out).mono ?_
      rintro e w1 ⟨rfl, R1⟩
      have HR1 := Lib.hid R1
      clear R1
      go_wp2_with fail
      exact ⟨1, [], _, _, _, _, _, _, _, _, _, _, _, _, _, _, _, _, _, _, _, _, _, _, _, _, _, _, _, _, _, rfl, HR1.out, tkB_lt H0.out, by simp, rdq_start H0.out⟩
  · rintro a' w' ⟨k, t, u1, u3, u4, u5, u6, u7, u8, u9, u10, u11, u12, u13, u14, u15, u16, u17, u18, u19, u20, u21, u22, u23, u24, u25, u26, u27, u28, u29, u30, rfl, J⟩
    clear HR
    have HJ := Lib.hid J
    have hszl : s.size = l.length := by rw [HS.out, txt_size]
    have hk1 : k ≤ s.size := by rw [hszl]; exact J.2.1
    have HK1 := Lib.hid hk1
    have HZ := Lib.hid hszl
    obtain ⟨x, HX⟩ : ∃ x, Hid (x = decide (k < prn l k)) := ⟨_, rfl⟩
    have HMU := Lib.hid J.1.posOf
    clear J hszl hk1
    go_wp2_with fail
    refine (stretch_any HJ.out.1 HS.out HL.out HJ.out.2.1 HJ.out.2.2.1).mono ?_
    rintro e w1 ⟨he, R1⟩
    rw [← HX.out] at he
    subst he
    have HR1 := Lib.hid R1
    clear R1
    cases x
    · have hk : prn l k = k := by
        have h1 : ¬ k < prn l k := of_decide_eq_false HX.out.symm
        have := prn_ge l k; omega
      have HN := Lib.hid (show ¬ k < prn l k by omega)
      have HR2 : Hid (RS W b s w1 (k : Int) t) := by
        have := HR1.out
        rw [hk] at this
        have e : (l.take k).drop k = [] := by simp
        rw [e, List.append_nil] at this
        exact this
      clear HR1 hk HX
      cases h92 : tkB l k 92
      · have H92 := Lib.hid h92
        clear h92
        cases h34 : tkB l k 34
        · have H34 := Lib.hid h34
          clear h34
          have HT := Lib.hid (tok_none HN.out H92.out H34.out)
          go_wp2_with fail
          refine (take_n 92 HR2.out HS.out HL.out HJ.out.2.1 H92.out).mono ?_
          rintro e w2 ⟨rfl, R2⟩
          have HR3 := Lib.hid R2
          clear R2
          go_wp2_with fail
          refine wp_region_any (by kernel_rfl) ?_
          change wpAny _ _ _ _ 15 _ _ _
          refine head_step (i := 0) rfl (by kernel_rfl) (fun K hK => ?_)
          go_simp
          refine hK _ _ ?_
          clear hK K
          refine head_step (i := 1) rfl (by kernel_rfl) (fun K hK => ?_)
          go_simp
          go_at_call 102
          refine (take_n 34 HR3.out.drew HS.out HL.out HJ.out.2.1 H34.out).mono ?_
          rintro e w4 ⟨rfl, R4⟩
          have HR4 := Lib.hid R4
          clear R4
          go_simp
          refine hK _ _ ?_
          clear hK K
          refine head_step (i := 2) rfl (by kernel_rfl) (fun K hK => ?_)
          go_simp
          refine hK _ _ ?_
          clear hK K
          refine head_step (i := 3) rfl (by kernel_rfl) (fun K hK => ?_)
          go_simp
          refine hK _ _ ?_
          clear hK K
          refine head_quiet 4 (by kernel_rfl) (by kernel_rfl) ?_
          simp only [List.drop_succ_cons, List.drop_zero]
          repeat (go_big_quiet_step (fail))
          refine wpQuiet_nil ?_
          intro _ hw'
          obtain ⟨nq, hw''⟩ := hw'
          subst hw''
          go_wp2_with fail
          simp only [Exit.jump]
          go_ret
          exact .inr ⟨false, k, t, by rw [HJ.out.2.2.2, Qu.body_stop HT.out]; rfl, rfl, HR4.out.drewN _⟩
        · have H34 := Lib.hid h34
          have hk2 : k + 1 ≤ s.size := by rw [HZ.out]; exact tkB_lt h34
          have hs1 : s.size ≤ 1000000 := by rw [HZ.out]; exact HL.out
          have HT := Lib.hid (tok_mark h34)
          clear h34
          by_cases hend : k + 1 = s.size
          · have HE := Lib.hid hend
            have HT2 : Hid (Qu.tok (l.drop k) = .stop (.ok [])) := by have := HT.out; rwa [if_pos (by rw [← HZ.out]; exact hend)] at this
            have hge : ¬ ((k : Int) + 1 < s.size) := by omega
            clear HT hend
            go_wp2_with fail
            refine (take_n 92 HR2.out HS.out HL.out HJ.out.2.1 H92.out).mono ?_
            rintro e w2 ⟨rfl, R2⟩
            have HR3 := Lib.hid R2
            clear R2
            go_wp2_with fail
            refine wp_region_any (by kernel_rfl) ?_
            change wpAny _ _ _ _ 15 _ _ _
            refine head_step (i := 0) rfl (by kernel_rfl) (fun K hK => ?_)
            go_simp
            refine hK _ _ ?_
            clear hK K
            refine head_step (i := 1) rfl (by kernel_rfl) (fun K hK => ?_)
            go_simp
            go_at_call 102
            refine (take_y 34 HR3.out.drew HS.out HL.out H34.out).mono ?_
            rintro e w4 ⟨rfl, R4⟩
            have HR4 := Lib.hid R4
            obtain ⟨_, _, v4, h4, _⟩ := R4
            obtain ⟨c0, c1, _, _⟩ := rd_cells h4
            clear h4
            go_simp
            refine hK _ _ ?_
            clear hK K
            refine head_step (i := 2) rfl (by kernel_rfl) (fun K hK => ?_)
            go_simp
            refine hK _ _ ?_
            clear hK K
            refine head_step (i := 3) rfl (by kernel_rfl) (fun K hK => ?_)
            go_simp
            refine hK _ _ ?_
            clear hK K
            refine head_quiet 4 (by kernel_rfl) (by kernel_rfl) ?_
            simp only [List.drop_succ_cons, List.drop_zero]
            repeat (go_big_quiet_step (fail))
            refine wpQuiet_nil ?_
            intro _ hw'
            obtain ⟨nq, hw''⟩ := hw'
            subst hw''
            go_wp2_with fail
            simp only [Exit.jump]
            go_ret
            exact .inl ⟨t, by rw [HJ.out.2.2.2, Qu.body_stop HT2.out]; simp [Qu.Res.pre], rfl, _, HR4.out.drewN _⟩
          · have HT2 : Hid (Qu.tok (l.drop k) = .stop (.bad false 1)) := by have := HT.out; rwa [if_neg (by rw [← HZ.out]; exact hend)] at this
            have hge : ((k : Int) + 1 < s.size) := by omega
            clear HT hend
            go_wp2_with fail
            refine (take_n 92 HR2.out HS.out HL.out HJ.out.2.1 H92.out).mono ?_
            rintro e w2 ⟨rfl, R2⟩
            have HR3 := Lib.hid R2
            clear R2
            go_wp2_with fail
            refine wp_region_any (by kernel_rfl) ?_
            change wpAny _ _ _ _ 15 _ _ _
            refine head_step (i := 0) rfl (by kernel_rfl) (fun K hK => ?_)
            go_simp
            refine hK _ _ ?_
            clear hK K
            refine head_step (i := 1) rfl (by kernel_rfl) (fun K hK => ?_)
            go_simp
            go_at_call 102
            refine (take_y 34 HR3.out.drew HS.out HL.out H34.out).mono ?_
            rintro e w4 ⟨rfl, R4⟩
            have HR4 := Lib.hid R4
            obtain ⟨_, _, v4, h4, _⟩ := R4
            obtain ⟨c0, c1, _, _⟩ := rd_cells h4
            clear h4
            go_simp
            refine hK _ _ ?_
            clear hK K
            refine head_step (i := 2) rfl (by kernel_rfl) (fun K hK => ?_)
            go_simp
            refine hK _ _ ?_
            clear hK K
            refine head_step (i := 3) rfl (by kernel_rfl) (fun K hK => ?_)
            go_simp
            refine hK _ _ ?_
            clear hK K
            refine head_quiet 4 (by kernel_rfl) (by kernel_rfl) ?_
            simp only [List.drop_succ_cons, List.drop_zero]
            repeat (go_big_quiet_step (fail))
            refine wpQuiet_nil ?_
            intro _ hw'
            obtain ⟨nq, hw''⟩ := hw'
            subst hw''
            go_wp2_with fail
            simp only [Exit.jump]
            go_ret
            exact .inr ⟨false, k + 1, t, by rw [HJ.out.2.2.2, Qu.body_stop HT2.out]; rfl, rfl, HR4.out.drewN _⟩
      · have H92 := Lib.hid h92
        clear h92
        go_wp2_with fail
        refine (take_y 92 HR2.out HS.out HL.out H92.out).mono ?_
        rintro e w2 ⟨rfl, R2⟩
        have HR3 := Lib.hid R2
        clear R2
        go_wp2_with fail
        refine (escape_any HR3.out HS.out HL.out H92.out HJ.out.2.2.1 HH.out HSh.out hz).mono ?_
        rintro e w3 (⟨hf, a, g1, rfl, g2⟩ | ⟨m, u, g1, g2, g3, g4, rfl, g5⟩)
        · have G1 := Lib.hid g1
          have G2 := Lib.hid g2
          clear g1 g2
          cases hf
          all_goals go_wp2_with fail
          all_goals simp only [Exit.jump]
          all_goals go_ret
          · exact .inr ⟨false, k + a, t, by rw [HJ.out.2.2.2, Qu.body_stop G1.out]; rfl, rfl, G2.out⟩
          · exact .inr ⟨true, k + a, t, by rw [HJ.out.2.2.2, Qu.body_stop G1.out]; rfl, rfl, G2.out⟩
        · have G1 := Lib.hid g1
          have G2 := Lib.hid g2
          have G3 := Lib.hid g3
          have G4 := Lib.hid g4
          have G5 := Lib.hid g5
          clear g1 g2 g3 g4 g5
          go_wp2_with fail
          go_step3
          refine ⟨rfl, ⟨k + m, t ++ u, _, _, _, _, _, _, _, _, _, _, _, _, _, _, _, _, _, _, _, _, _, _, _, _, _, _, _, _, _, rfl, G5.out, G3.out, ?_, ?_⟩, ?_⟩
          · have := HJ.out.2.2.1; have := G4.out; rw [List.length_append]; omega
          · rw [HJ.out.2.2.2, Qu.body_go G1.out, Qu.pre_pre]
          · rw [G5.out.posOf, HMU.out]; have := G2.out; have := G3.out; have := HZ.out; omega
    · have hk : k < prn l k := of_decide_eq_true HX.out.symm
      have HKK := Lib.hid hk
      clear hk HX
      go_wp2_with fail
      go_step3
      have hle := prn_le HJ.out.2.1
      refine ⟨rfl, ⟨prn l k, t ++ (l.take (prn l k)).drop k, _, _, _, _, _, _, _, _, _, _, _, _, _, _, _, _, _, _, _, _, _, _, _, _, _, _, _, _, _, rfl, HR1.out, hle, ?_, ?_⟩, ?_⟩
      · have := HJ.out.2.2.1; have := HKK.out; simp; omega
      · rw [HJ.out.2.2.2, body_plain l k, Qu.pre_pre, show k + (prn l k - k) = prn l k by have := HKK.out; omega]
      · rw [HR1.out.posOf, HMU.out]; have := HKK.out; have := HZ.out; omega
end
end Go.Proofs.YtdclhepjoifpiaaGreatDoor
/- The program's own reading of a string. -/
namespace Go.Proofs.YtdclhepjoifpiaaGreatDoor
open Go.RowKit

/-- What a reading answers. -/
def rval : Qu.Res → Value
  | .ok t => .tuple #[.string (txt t), .agg #[.int .i64 0, .int .i64 0]]
  | .bad hf a => .tuple #[.string ⟨#[]⟩, .agg #[.int .i64 (if hf = true then 6 else 3), .int .i64 (a : Int)]]
theorem cell_old {W w : World} (h : Below W.heap.size W w) {F i : Nat} {v : Value} (hF : F < W.heap.size) (hc : W.cell? ⟨F, i, none⟩ = some v) : w.cell? ⟨F, i, none⟩ = some v := (h.cell (p := ⟨F, i, none⟩) hF).trans hc
theorem free_old {W w : World} (h : Below W.heap.size W w) {F i : Nat} (hF : F < W.heap.size) (hc : W.frozen? ⟨F, i, none⟩ = false) : w.frozen? ⟨F, i, none⟩ = false := by
  rw [← hc]
  simp only [World.frozen?]
  rw [h.block F hF]
theorem below_of {w w' : World} {o : Obj} (h : Below (w.alloc o).heap.size (w.alloc o) w') : Below w.heap.size w w' :=
  ((Below.refl _ _).alloc (Nat.le_refl _) o).trans (h.mono (by simp))
set_option maxHeartbeats 2000000 in
theorem qread_any {l : List UInt8} {s : ByteArray} (w : World) (hs : s = txt l) (hl : l.length ≤ 1000000) (hH : Heads w) (hS : Shorts w) (hz : 3 < w.heap.size) :
    Calls Tryz.prog 74 #[.string s] w fun e w' => e = .returned (rval (Qu.rdq l)) ∧ Below w.heap.size w w' := by
  obtain ⟨i0, hi, hz0, hz1, hz2⟩ := info_parts (show (Tryz.prog.info? 5).map (fun i => (i.zero, i.size, i.bytes)) = some (some (.int .u8 0), 1, 1) by kernel_rfl)
  obtain ⟨W, HW⟩ : ∃ W, W = w.alloc (.cells #[.int .i64 0, .int .i64 0] 30) := ⟨_, rfl⟩
  have hb0 : Below w.heap.size w W := by rw [HW]; exact (Below.refl _ _).alloc (Nat.le_refl _) _
  have hWs : W.heap.size = w.heap.size + 1 := by rw [HW]; simp
  have HH := Lib.hid (hH.below hb0 hz)
  have HSh := Lib.hid (hS.old (by omega) hb0)
  have HZ := Lib.hid (show 3 < W.heap.size by omega)
  have f0 : W.cell? ⟨w.heap.size, 0, none⟩ = some (.int .i64 0) := by rw [HW, World.cell?_alloc_at _ _ _ _ rfl]; rfl
  have f1 : W.cell? ⟨w.heap.size, 1, none⟩ = some (.int .i64 0) := by rw [HW, World.cell?_alloc_at _ _ _ _ rfl]; rfl
  have g0 : W.frozen? ⟨w.heap.size, 0, none⟩ = false := by rw [HW]; exact World.frozen?_alloc_new _ _ _ _
  have g1 : W.frozen? ⟨w.heap.size, 1, none⟩ = false := by rw [HW]; exact World.frozen?_alloc_new _ _ _ _
  have HF := Lib.hid (show w.heap.size < W.heap.size by omega)
  have HF0 := Lib.hid f0
  have HF1 := Lib.hid f1
  have HG0 := Lib.hid g0
  have HG1 := Lib.hid g1
  have HB := Lib.hid (show ∀ w', Below W.heap.size W w' → Below w.heap.size w w' by rw [HW]; exact fun w' h => below_of h)
  have HS := Lib.hid hs
  have HL := Lib.hid hl
  have hsz : s.size ≤ 1000000 := by rw [hs, txt_size]; exact hl
  have HWW := Lib.hid HW
  have hbase : W.heap.size ≤ (w.alloc (.cells #[.int .i64 0, .int .i64 0] 30)).heap.size := by rw [HW]; exact Nat.le_refl _
  clear hs hl hH hS hz hb0 hWs f0 f1 g0 g1 HW
  go_enter Tryz.func74, Tryz.ntmps74
  go_wp2_with (at_make; refine wpList_make_own _ rfl _ _ 22 rfl W.heap.size 5 i0 (.int .u8 0) 1 Tryz.underlying22 hi hz0 hz1 .i64 .i64 _ s.size rfl rfl rfl (by rw [hz2]; omega) (by unfold maxLen; omega) hbase ?_; intro w1 hown1 hg1; rw [← HWW.out] at hg1)
  have R0 : RS W w1.heap.size s (w1.alloc (rdo s 0 (.slice (some ⟨w.heap.size + 1, 0, none⟩) 0 s.size))) (0 : Nat) [] := by
    refine ⟨((Below.refl _ _).grown hg1 (Nat.le_refl _) (fun _ h => by cases h)).alloc hg1.size _, hg1.size, _, ?_, World.ownsRow.alloc (by rw [HWW.out, show (w.alloc (.cells #[.int .i64 0, .int .i64 0] 30)).heap.size = w.heap.size + 1 by simp] at hown1; rw [HWW.out, show (w.alloc (.cells #[.int .i64 0, .int .i64 0] 30)).heap.size = w.heap.size + 1 by simp]; exact hown1) _⟩
    exact heap_alloc_new _ _
  have HR0 := Lib.hid R0
  clear R0 hown1 hg1 hbase
  refine (whole_any HR0.out HS.out HL.out HH.out HSh.out HZ.out).mono ?_
  rintro e w4 (⟨t, g1, rfl, p, R4⟩ | ⟨hf, a, t, g1, rfl, R4⟩)
  · have G1 := Lib.hid g1
    have HR4 := Lib.hid R4
    obtain ⟨r1, _, v, h3, h4⟩ := R4
    obtain ⟨A, c, rfl, o1, o2, o3, o4, o5⟩ := own_form h4
    obtain ⟨c0, c1, c2, _⟩ := rd_cells h3
    have hcv := conv_bytes (w := w4) t.length c rfl o4
    have d0 := cell_old r1 HF.out HF0.out
    have d1 := cell_old r1 HF.out HF1.out
    have e0 := free_old r1 HF.out HG0.out
    have e1 := free_old r1 HF.out HG1.out
    obtain ⟨S, HSS⟩ : ∃ S, Hid (S = txt t) := ⟨_, rfl⟩
    rw [← HSS.out] at hcv
    have HB2 := Lib.hid (HB.out w4 r1)
    clear g1 r1 h3 h4 o1 o2 o3 o4 o5
    go_wp2_with fail
    refine bodyPost_ret (v := .tuple #[.string S, .agg #[.int .i64 0, .int .i64 0]]) (by simp [results, Tryz.results74, go_sem, *]) rfl ?_
    refine ⟨by rw [G1.out, rval, HSS.out], ?_⟩
    exact (HB2.out.setCell (Nat.le_refl _) _).setCell (Nat.le_refl _) _
  · have G1 := Lib.hid g1
    obtain ⟨r1, _, v, h3, h4⟩ := R4
    obtain ⟨c0, c1, c2, _⟩ := rd_cells h3
    have d0 := cell_old r1 HF.out HF0.out
    have d1 := cell_old r1 HF.out HF1.out
    have e0 := free_old r1 HF.out HG0.out
    have e1 := free_old r1 HF.out HG1.out
    have HB2 := Lib.hid (HB.out w4 r1)
    clear g1 r1 h3 h4
    cases hf
    · go_wp2_with fail
      go_region
      all_goals go_wp2_with fail
      all_goals refine bodyPost_ret (v := .tuple #[.string ⟨#[]⟩, .agg #[.int .i64 3, .int .i64 a]]) (by simp [results, Tryz.results74, go_sem, *]) rfl ?_
      all_goals refine ⟨by rw [G1.out, rval]; rfl, ?_⟩
      all_goals exact ((HB2.out.setCell (Nat.le_refl _) _).setCell (Nat.le_refl _) _).drew
    · go_wp2_with fail
      go_region
      all_goals go_wp2_with fail
      all_goals refine bodyPost_ret (v := .tuple #[.string ⟨#[]⟩, .agg #[.int .i64 6, .int .i64 a]]) (by simp [results, Tryz.results74, go_sem, *]) rfl ?_
      all_goals refine ⟨by rw [G1.out, rval]; rfl, ?_⟩
      all_goals exact ((HB2.out.setCell (Nat.le_refl _) _).setCell (Nat.le_refl _) _).drew
end Go.Proofs.YtdclhepjoifpiaaGreatDoor
