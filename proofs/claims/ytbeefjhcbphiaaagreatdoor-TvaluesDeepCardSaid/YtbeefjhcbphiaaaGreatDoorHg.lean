/- The reader's escapes (TOML). -/
import Derived.Test.YtbeefjhcbphiaaaGreatDoorHf
namespace Go.Proofs.YtbeefjhcbphiaaaGreatDoor
open Go.RowKit

/-- The short escapes, as the program lays them. -/
def TShorts (w : World) : Prop := w.cell? ⟨0, 0, none⟩ = some (.int .u8 98) ∧ w.cell? ⟨0, 1, none⟩ = some (.int .u8 8) ∧ w.cell? ⟨0, 2, none⟩ = some (.int .u8 116) ∧ w.cell? ⟨0, 3, none⟩ = some (.int .u8 9) ∧ w.cell? ⟨0, 4, none⟩ = some (.int .u8 110) ∧ w.cell? ⟨0, 5, none⟩ = some (.int .u8 10) ∧ w.cell? ⟨0, 6, none⟩ = some (.int .u8 102) ∧ w.cell? ⟨0, 7, none⟩ = some (.int .u8 12) ∧ w.cell? ⟨0, 8, none⟩ = some (.int .u8 114) ∧ w.cell? ⟨0, 9, none⟩ = some (.int .u8 13) ∧ w.cell? ⟨0, 10, none⟩ = some (.int .u8 34) ∧ w.cell? ⟨0, 11, none⟩ = some (.int .u8 34) ∧ w.cell? ⟨0, 12, none⟩ = some (.int .u8 92) ∧ w.cell? ⟨0, 13, none⟩ = some (.int .u8 92)
theorem TShorts.old {W w : World} (h : TShorts W) (hz : 0 < W.heap.size) (hb : Below W.heap.size W w) : TShorts w := by
  obtain ⟨h0, h1, h2, h3, h4, h5, h6, h7, h8, h9, h10, h11, h12, h13⟩ := h
  exact ⟨(hb.cell (p := ⟨0, 0, none⟩) hz).trans h0, (hb.cell (p := ⟨0, 1, none⟩) hz).trans h1, (hb.cell (p := ⟨0, 2, none⟩) hz).trans h2, (hb.cell (p := ⟨0, 3, none⟩) hz).trans h3, (hb.cell (p := ⟨0, 4, none⟩) hz).trans h4, (hb.cell (p := ⟨0, 5, none⟩) hz).trans h5, (hb.cell (p := ⟨0, 6, none⟩) hz).trans h6, (hb.cell (p := ⟨0, 7, none⟩) hz).trans h7, (hb.cell (p := ⟨0, 8, none⟩) hz).trans h8, (hb.cell (p := ⟨0, 9, none⟩) hz).trans h9, (hb.cell (p := ⟨0, 10, none⟩) hz).trans h10, (hb.cell (p := ⟨0, 11, none⟩) hz).trans h11, (hb.cell (p := ⟨0, 12, none⟩) hz).trans h12, (hb.cell (p := ⟨0, 13, none⟩) hz).trans h13⟩
/-- Where a rune's number stands in the text, the table of heads is as the program lays it. -/
def HdOk (W : World) (l : List UInt8) : Prop := ∀ k many n r, many = 4 ∨ many = 8 → Qu.hx many 0 (l.drop k) = .inr (n, r) → Tq.sur n = false → Heads W ∧ 9 < W.heap.size
section
variable {l : List UInt8} {q : Nat}
theorem es_at {c b : UInt8} (h : tkC l (q + 1) (c.toNat : Int) = true) (hs : Tq.sh c = some b) : Tq.es (l.drop (q + 1)) = .ok [b] 2 := by
  rw [tkC_drop h]; simp only [Tq.es, hs]
theorem es_117 (h : tkC l (q + 1) 117 = true) : Tq.es (l.drop (q + 1)) = Tq.num 4 (l.drop (q + 2)) := by
  rw [tkC_drop (c := 117) h]
  have s : Tq.sh 117 = none := by decide
  simp only [Tq.es, s]
  rw [if_pos trivial]
theorem es_85 (h : tkC l (q + 1) 85 = true) : Tq.es (l.drop (q + 1)) = Tq.num 8 (l.drop (q + 2)) := by
  rw [tkC_drop (c := 85) h]
  have s : Tq.sh 85 = none := by decide
  simp only [Tq.es, s]
  rw [if_neg (by decide), if_pos trivial]
theorem sh_in {c b : UInt8} (h : Tq.sh c = some b) : c = 98 ∨ c = 116 ∨ c = 110 ∨ c = 102 ∨ c = 114 ∨ c = 34 ∨ c = 92 := by
  unfold Tq.sh at h
  repeat' split at h
  all_goals first
    | (cases h; done)
    | simp_all
theorem es_not (h117 : tkC l (q + 1) 117 = false) (h85 : tkC l (q + 1) 85 = false) (hn : ∀ c b, Tq.sh c = some b → tkC l (q + 1) (c.toNat : Int) = false) : Tq.es (l.drop (q + 1)) = .bad 1 := by
  rcases tkC_not (c := 117) h117 with e | ⟨d, e, n1, hl⟩
  · rw [e]; rfl
  · rcases tkC_not (c := 85) h85 with e' | ⟨d', e', n2, _⟩
    · rw [e']; rfl
    · rw [e] at e'
      injection e' with e' _
      subst e'
      have hs : Tq.sh d = none := by
        cases hs : Tq.sh d with
        | none => rfl
        | some b =>
          have := hn d b hs
          rcases tkC_not (c := d) this with e3 | ⟨d3, e3, n3, _⟩
          · rw [e3] at e; cases e
          · rw [e] at e3
            injection e3 with e3 _
            exact absurd e3.symm n3
      rw [e]
      simp only [Tq.es, hs]
      rw [if_neg n1, if_neg n2]
end
section
variable {W w : World} {b : Nat} {K : Kd} {s : ByteArray} {t l : List UInt8}
theorem ttake_yg {p : Nat} (c : Int) (h : TR W b K s w p t) (hs : s = txt l) (hl : l.length ≤ 1000000) (htk : tkC l p c = true) :
    Calls Tryz.prog 270 #[.pointer (some ⟨b, 0, none⟩), .int .u8 c] w fun e w' => e = .returned (.bool true) ∧ TR W b K s w' ((p + 1 : Nat) : Int) t ∧ w.grownBy w' (some b) := by
  obtain ⟨hp, hc⟩ : p < l.length ∧ bt l p = c := by simpa [tkC] using htk
  clear htk
  have HR := Lib.hid h
  obtain ⟨_, _, v, h3, _⟩ := h
  obtain ⟨c0, c1, c2, c3, cf⟩ := td_cells h3
  have f1 := cf 1
  have hsz : s.size = l.length := by rw [hs, txt_size]
  have hx := txt_at hs (k := p)
  have hz : p < s.size := by omega
  have hs1 : s.size ≤ 1000000 := by omega
  have g1 : ((p : Int) == (s.size : Int)) = false := by simp; omega
  have g2 : (bt l p != c) = false := by simp [hc]
  clear hs hl hp hc h3 cf hsz
  go_enter Tryz.func270, Tryz.ntmps270
  go_wp2_with fail
  go_quiet (fail)
  go_wp2_with fail
  go_ret
  exact ⟨rfl, by have := (HR.out.drewN nq).pos ((p + 1 : Nat) : Int); simpa using this, rfl, rfl, rfl, by simp [World.setCell], fun k _ hk => Below.heap_setCell _ _ _ _ (fun e => hk (by rw [e]))⟩
end
theorem tix_0 (w : World) : (Instr.index 125 (.agg #[.int .u8 98, .int .u8 8, .int .u8 116, .int .u8 9, .int .u8 110, .int .u8 10, .int .u8 102, .int .u8 12, .int .u8 114, .int .u8 13, .int .u8 34, .int .u8 34, .int .u8 92, .int .u8 92]) (.int .i64 0)).run Tryz.prog w = .ok (.agg #[.int .u8 98, .int .u8 8]) w := by kernel_rfl
theorem tix_1 (w : World) : (Instr.index 125 (.agg #[.int .u8 98, .int .u8 8, .int .u8 116, .int .u8 9, .int .u8 110, .int .u8 10, .int .u8 102, .int .u8 12, .int .u8 114, .int .u8 13, .int .u8 34, .int .u8 34, .int .u8 92, .int .u8 92]) (.int .i64 1)).run Tryz.prog w = .ok (.agg #[.int .u8 116, .int .u8 9]) w := by kernel_rfl
theorem tix_2 (w : World) : (Instr.index 125 (.agg #[.int .u8 98, .int .u8 8, .int .u8 116, .int .u8 9, .int .u8 110, .int .u8 10, .int .u8 102, .int .u8 12, .int .u8 114, .int .u8 13, .int .u8 34, .int .u8 34, .int .u8 92, .int .u8 92]) (.int .i64 2)).run Tryz.prog w = .ok (.agg #[.int .u8 110, .int .u8 10]) w := by kernel_rfl
theorem tix_3 (w : World) : (Instr.index 125 (.agg #[.int .u8 98, .int .u8 8, .int .u8 116, .int .u8 9, .int .u8 110, .int .u8 10, .int .u8 102, .int .u8 12, .int .u8 114, .int .u8 13, .int .u8 34, .int .u8 34, .int .u8 92, .int .u8 92]) (.int .i64 3)).run Tryz.prog w = .ok (.agg #[.int .u8 102, .int .u8 12]) w := by kernel_rfl
theorem tix_4 (w : World) : (Instr.index 125 (.agg #[.int .u8 98, .int .u8 8, .int .u8 116, .int .u8 9, .int .u8 110, .int .u8 10, .int .u8 102, .int .u8 12, .int .u8 114, .int .u8 13, .int .u8 34, .int .u8 34, .int .u8 92, .int .u8 92]) (.int .i64 4)).run Tryz.prog w = .ok (.agg #[.int .u8 114, .int .u8 13]) w := by kernel_rfl
theorem tix_5 (w : World) : (Instr.index 125 (.agg #[.int .u8 98, .int .u8 8, .int .u8 116, .int .u8 9, .int .u8 110, .int .u8 10, .int .u8 102, .int .u8 12, .int .u8 114, .int .u8 13, .int .u8 34, .int .u8 34, .int .u8 92, .int .u8 92]) (.int .i64 5)).run Tryz.prog w = .ok (.agg #[.int .u8 34, .int .u8 34]) w := by kernel_rfl
theorem tix_6 (w : World) : (Instr.index 125 (.agg #[.int .u8 98, .int .u8 8, .int .u8 116, .int .u8 9, .int .u8 110, .int .u8 10, .int .u8 102, .int .u8 12, .int .u8 114, .int .u8 13, .int .u8 34, .int .u8 34, .int .u8 92, .int .u8 92]) (.int .i64 6)).run Tryz.prog w = .ok (.agg #[.int .u8 92, .int .u8 92]) w := by kernel_rfl
theorem byt_one {w : World} (c : UInt8) (x : Int) (hx : x = (c.toNat : Int)) (o : Obj) (h : o = .cells #[.int .u8 x] 5) : Byt (w.alloc o).drew (w.alloc o).drew.heap.size (some ⟨w.heap.size, 0, none⟩) [c] := by
  subst h; subst hx
  refine fun _ => ⟨w.heap.size, 0, rfl, by show _ < (w.alloc _).heap.size; simp, fun k hk => ?_⟩
  obtain rfl : k = 0 := by simpa using hk
  show (w.alloc _).cell? _ = _
  rw [World.cell?_alloc_at _ _ _ _ rfl]
  simp [bt]
/-- What is left of an escape's reading: its backslash stands at q. -/
def TEsPost (W : World) (b : Nat) (K : Kd) (s : ByteArray) (l : List UInt8) (q : Nat) (t : List UInt8) (e : Ending) (w' : World) : Prop :=
  (∃ k, Tq.es (l.drop (q + 1)) = .bad k ∧ e = .returned (.bool false) ∧ TR W b K s w' ((q + k : Nat) : Int) t) ∨
  (∃ u k, Tq.es (l.drop (q + 1)) = .ok u k ∧ 2 ≤ k ∧ q + k ≤ l.length ∧ u.length ≤ 4 * k ∧ e = .returned (.bool true) ∧ TR W b K s w' ((q + k : Nat) : Int) (t ++ u))
theorem TEsPost.num {W : World} {b : Nat} {K : Kd} {s : ByteArray} {l : List UInt8} {q many : Nat} {t : List UInt8} {e : Ending} {w' : World} (he : Tq.es (l.drop (q + 1)) = Tq.num many (l.drop (q + 2))) (hm : 1 ≤ many) (h : NmPost W b K s l many (q + 2) t e w') : TEsPost W b K s l q t e w' := by
  rcases h with ⟨j, h1, h2, h3⟩ | ⟨n, r, h1, h2, h3, h4⟩ | ⟨n, r, h1, h2, h3, h4, h5⟩
  · refine .inl ⟨2 + j, by rw [he, Tq.num, h1], h2, ?_⟩
    rwa [show q + 2 + j = q + (2 + j) by omega] at h3
  · refine .inl ⟨2, by rw [he, Tq.num, h1]; simp [h2], h3, h4⟩
  · refine .inr ⟨Qu.pt n, 2 + many, by rw [he, Tq.num, h1]; simp [h2], by omega, by omega, by have := pt_len n; omega, h4, ?_⟩
    rwa [show q + 2 + many = q + (2 + many) by omega] at h5
/-- How far the table has been looked through. -/
def TERel (W : World) (b : Nat) (K : Kd) (s : ByteArray) (l : List UInt8) (q : Nat) (t : List UInt8) (k : Nat) (wr : World) : Prop :=
  TR W b K s wr ((q + 1 : Nat) : Int) t ∧ ∀ j, j < k → tkC l (q + 1) (([98, 116, 110, 102, 114, 34, 92] : List Int).getD j 0) = false
section
variable {W w : World} {b : Nat} {K : Kd} {s : ByteArray} {q : Nat} {t l : List UInt8}
theorem TERel.next {k : Nat} {c : Int} {wr w' : World} (h : TERel W b K s l q t k wr) (hc : ([98, 116, 110, 102, 114, 34, 92] : List Int).getD k 0 = c) (hn : tkC l (q + 1) c = false) (hR : TR W b K s w' ((q + 1 : Nat) : Int) t) : TERel W b K s l q t (k + 1) w' :=
  ⟨hR, fun j hj => by
    rcases Nat.lt_or_ge j k with h1 | h1
    · exact h.2 j h1
    · obtain rfl : j = k := by omega
      rw [hc]; exact hn⟩
set_option maxHeartbeats 8000000 in
set_option maxRecDepth 100000 in
theorem tescape_any (h : TR W b K s w ((q + 1 : Nat) : Int) t) (hs : s = txt l) (hl : l.length ≤ 1000000) (h1 : q + 1 ≤ l.length) (ht : t.length ≤ 4 * q) (hH : HdOk W l) (hS : TShorts W) (hz : 0 < W.heap.size) :
    Calls Tryz.prog 275 #[.pointer (some ⟨b, 0, none⟩)] w (TEsPost W b K s l q t) := by
  obtain ⟨i0, hi, hz0, hz1, hz2⟩ := info_parts (show (Tryz.prog.info? 5).map (fun i => (i.zero, i.size, i.bytes)) = some (some (.int .u8 0), 1, 1) by kernel_rfl)
  have HR := Lib.hid h
  have HS := Lib.hid hs
  have HL := Lib.hid hl
  have HQ := Lib.hid h1
  have HT := Lib.hid ht
  have HH := Lib.hid hH
  have SH0 := Lib.hid hS
  have htl : t.length ≤ 4000000 := by omega
  clear h hs hl h1 ht hH hS
  cases h2 : tkC l (q + 1) 117
  · have H2 := Lib.hid h2
    clear h2
    cases h3 : tkC l (q + 1) 85
    · have H3 := Lib.hid h3
      clear h3
      go_enter Tryz.func275, Tryz.ntmps275
      go_wp2_with fail
      refine (ttake_n 117 HR.out HS.out HL.out HQ.out H2.out).mono ?_
      rintro e w1 ⟨rfl, R1⟩
      have HR1 := Lib.hid R1
      clear R1
      go_wp2_with fail
      refine (ttake_n 85 HR1.out HS.out HL.out HQ.out H3.out).mono ?_
      rintro e w2 ⟨rfl, R1⟩
      have HR2 := Lib.hid R1
      have E0 : TERel W b K s l q t 0 w2 := ⟨R1, fun j hj => by omega⟩
      have s1 : TShorts w2 := SH0.out.old (by omega) R1.1
      obtain ⟨z0, z1, z2, z3, z4, z5, z6, z7, z8, z9, z10, z11, z12, z13⟩ := s1
      clear R1
      go_wp2_with fail
      clear z0 z1 z2 z3 z4 z5 z6 z7 z8 z9 z10 z11 z12 z13
      go_loopw [14] (fun i wr => ∃ k : Nat, k ≤ 7 ∧ i = .int .i64 k ∧ TERel W b K s l q t k wr) (fun i _ => 7 - (intOf i).toNat)
      case atStart => exact ⟨0, Nat.zero_le _, rfl, E0⟩
      case round =>
        obtain ⟨k, hk, rfl, R⟩ := hrel
        clear E0
        have HE := Lib.hid R
        have HRr := Lib.hid R.1
        obtain ⟨_, _, _, h30, _⟩ := R.1
        have hbl := lt_of_block h30
        clear R h30
        rcases (show k = 0 ∨ k = 1 ∨ k = 2 ∨ k = 3 ∨ k = 4 ∨ k = 5 ∨ k = 6 ∨ k = 7 by omega) with rfl | rfl | rfl | rfl | rfl | rfl | rfl | rfl
        · have hix := tix_0 wr
          cases h4 : tkC l (q + 1) 98
          · have H4 := Lib.hid h4
            clear h4
            go_wp2_with fail
            refine (ttake_n 98 (HRr.out.alloc _) HS.out HL.out HQ.out H4.out).mono ?_
            rintro e w3 ⟨rfl, R2⟩
            have N := Lib.hid (HE.out.next rfl H4.out R2)
            clear R2
            go_wp2_with fail
            go_roundw
            case rel => exact ⟨1, by omega, by go_num, N.out⟩
            case measure => simp [intOf]
          · have H4 := Lib.hid h4
            have TK := Lib.hid (es_at (c := 98) (b := 8) h4 (by decide))
            have HQ2 := Lib.hid (tkC_lt h4)
            clear h4
            go_wp2_with fail
            refine (ttake_yg 98 (HRr.out.alloc _) HS.out HL.out H4.out).mono ?_
            rintro e w3 ⟨rfl, R2, hg⟩
            have y0 := hg.cell (a := ⟨wr.heap.size, 0, none⟩) (v := .int .u8 98) (by go_simp) (by simp; omega)
            have y1 := hg.cell (a := ⟨wr.heap.size, 1, none⟩) (v := .int .u8 8) (by go_simp) (by simp; omega)
            obtain ⟨v, RV2⟩ := R2.rv
            have HV := Lib.hid RV2
            have HA := Lib.hid ((RV2.alloc (.cells #[.int .u8 8] 5)).drew)
            have HB := Lib.hid (byt_one (w := w3) 8 8 (by decide) _ rfl)
            obtain ⟨c0, c1, c2, c3, cf⟩ := RV2.cells
            have f2 := cf 3
            have ca := (RV2.alloc (.cells #[.int .u8 8] 5)).cells.2.2.2.1
            clear cf RV2 R2 hg c2
            go_wp2_with fail
            go_region_law (first
              | (refine tstep_app rfl (.tmp 25) (.tmp 28) 48 rfl W.heap.size 5 i0 (.int .u8 0) 1 Tryz.underlying48 hi hz0 hz1 hz2 rfl v t.length (bytV t) rfl HA.out.2.2.2 (some ⟨w3.heap.size, 0, none⟩) 1 1 _ [8] rfl rfl HB.out (fun h => by cases h) (by unfold maxLen; omega) (by omega) HA.out.1.size ?_; intro v' w5 hown5 hg5; obtain ⟨⟨A', n', cp', rfl⟩, h5, R5⟩ := TV.text HA.out hown5 hg5; obtain ⟨c0', c1', c2', c3', cf'⟩ := td_cells h5; have f2' := cf' 3; clear cf' h5 hown5 hg5 c2'))
            all_goals (have HR5 := Lib.hid R5; clear R5)
            all_goals go_wp2_with fail
            all_goals go_ret
            all_goals exact .inr ⟨[8], 2, TK.out, by omega, HQ2.out, by simp, rfl, HR5.out⟩
        · have hix := tix_1 wr
          cases h4 : tkC l (q + 1) 116
          · have H4 := Lib.hid h4
            clear h4
            go_wp2_with fail
            refine (ttake_n 116 (HRr.out.alloc _) HS.out HL.out HQ.out H4.out).mono ?_
            rintro e w3 ⟨rfl, R2⟩
            have N := Lib.hid (HE.out.next rfl H4.out R2)
            clear R2
            go_wp2_with fail
            go_roundw
            case rel => exact ⟨2, by omega, by go_num, N.out⟩
            case measure => simp [intOf]
          · have H4 := Lib.hid h4
            have TK := Lib.hid (es_at (c := 116) (b := 9) h4 (by decide))
            have HQ2 := Lib.hid (tkC_lt h4)
            clear h4
            go_wp2_with fail
            refine (ttake_yg 116 (HRr.out.alloc _) HS.out HL.out H4.out).mono ?_
            rintro e w3 ⟨rfl, R2, hg⟩
            have y0 := hg.cell (a := ⟨wr.heap.size, 0, none⟩) (v := .int .u8 116) (by go_simp) (by simp; omega)
            have y1 := hg.cell (a := ⟨wr.heap.size, 1, none⟩) (v := .int .u8 9) (by go_simp) (by simp; omega)
            obtain ⟨v, RV2⟩ := R2.rv
            have HV := Lib.hid RV2
            have HA := Lib.hid ((RV2.alloc (.cells #[.int .u8 9] 5)).drew)
            have HB := Lib.hid (byt_one (w := w3) 9 9 (by decide) _ rfl)
            obtain ⟨c0, c1, c2, c3, cf⟩ := RV2.cells
            have f2 := cf 3
            have ca := (RV2.alloc (.cells #[.int .u8 9] 5)).cells.2.2.2.1
            clear cf RV2 R2 hg c2
            go_wp2_with fail
            go_region_law (first
              | (refine tstep_app rfl (.tmp 25) (.tmp 28) 48 rfl W.heap.size 5 i0 (.int .u8 0) 1 Tryz.underlying48 hi hz0 hz1 hz2 rfl v t.length (bytV t) rfl HA.out.2.2.2 (some ⟨w3.heap.size, 0, none⟩) 1 1 _ [9] rfl rfl HB.out (fun h => by cases h) (by unfold maxLen; omega) (by omega) HA.out.1.size ?_; intro v' w5 hown5 hg5; obtain ⟨⟨A', n', cp', rfl⟩, h5, R5⟩ := TV.text HA.out hown5 hg5; obtain ⟨c0', c1', c2', c3', cf'⟩ := td_cells h5; have f2' := cf' 3; clear cf' h5 hown5 hg5 c2'))
            all_goals (have HR5 := Lib.hid R5; clear R5)
            all_goals go_wp2_with fail
            all_goals go_ret
            all_goals exact .inr ⟨[9], 2, TK.out, by omega, HQ2.out, by simp, rfl, HR5.out⟩
        · have hix := tix_2 wr
          cases h4 : tkC l (q + 1) 110
          · have H4 := Lib.hid h4
            clear h4
            go_wp2_with fail
            refine (ttake_n 110 (HRr.out.alloc _) HS.out HL.out HQ.out H4.out).mono ?_
            rintro e w3 ⟨rfl, R2⟩
            have N := Lib.hid (HE.out.next rfl H4.out R2)
            clear R2
            go_wp2_with fail
            go_roundw
            case rel => exact ⟨3, by omega, by go_num, N.out⟩
            case measure => simp [intOf]
          · have H4 := Lib.hid h4
            have TK := Lib.hid (es_at (c := 110) (b := 10) h4 (by decide))
            have HQ2 := Lib.hid (tkC_lt h4)
            clear h4
            go_wp2_with fail
            refine (ttake_yg 110 (HRr.out.alloc _) HS.out HL.out H4.out).mono ?_
            rintro e w3 ⟨rfl, R2, hg⟩
            have y0 := hg.cell (a := ⟨wr.heap.size, 0, none⟩) (v := .int .u8 110) (by go_simp) (by simp; omega)
            have y1 := hg.cell (a := ⟨wr.heap.size, 1, none⟩) (v := .int .u8 10) (by go_simp) (by simp; omega)
            obtain ⟨v, RV2⟩ := R2.rv
            have HV := Lib.hid RV2
            have HA := Lib.hid ((RV2.alloc (.cells #[.int .u8 10] 5)).drew)
            have HB := Lib.hid (byt_one (w := w3) 10 10 (by decide) _ rfl)
            obtain ⟨c0, c1, c2, c3, cf⟩ := RV2.cells
            have f2 := cf 3
            have ca := (RV2.alloc (.cells #[.int .u8 10] 5)).cells.2.2.2.1
            clear cf RV2 R2 hg c2
            go_wp2_with fail
            go_region_law (first
              | (refine tstep_app rfl (.tmp 25) (.tmp 28) 48 rfl W.heap.size 5 i0 (.int .u8 0) 1 Tryz.underlying48 hi hz0 hz1 hz2 rfl v t.length (bytV t) rfl HA.out.2.2.2 (some ⟨w3.heap.size, 0, none⟩) 1 1 _ [10] rfl rfl HB.out (fun h => by cases h) (by unfold maxLen; omega) (by omega) HA.out.1.size ?_; intro v' w5 hown5 hg5; obtain ⟨⟨A', n', cp', rfl⟩, h5, R5⟩ := TV.text HA.out hown5 hg5; obtain ⟨c0', c1', c2', c3', cf'⟩ := td_cells h5; have f2' := cf' 3; clear cf' h5 hown5 hg5 c2'))
            all_goals (have HR5 := Lib.hid R5; clear R5)
            all_goals go_wp2_with fail
            all_goals go_ret
            all_goals exact .inr ⟨[10], 2, TK.out, by omega, HQ2.out, by simp, rfl, HR5.out⟩
        · have hix := tix_3 wr
          cases h4 : tkC l (q + 1) 102
          · have H4 := Lib.hid h4
            clear h4
            go_wp2_with fail
            refine (ttake_n 102 (HRr.out.alloc _) HS.out HL.out HQ.out H4.out).mono ?_
            rintro e w3 ⟨rfl, R2⟩
            have N := Lib.hid (HE.out.next rfl H4.out R2)
            clear R2
            go_wp2_with fail
            go_roundw
            case rel => exact ⟨4, by omega, by go_num, N.out⟩
            case measure => simp [intOf]
          · have H4 := Lib.hid h4
            have TK := Lib.hid (es_at (c := 102) (b := 12) h4 (by decide))
            have HQ2 := Lib.hid (tkC_lt h4)
            clear h4
            go_wp2_with fail
            refine (ttake_yg 102 (HRr.out.alloc _) HS.out HL.out H4.out).mono ?_
            rintro e w3 ⟨rfl, R2, hg⟩
            have y0 := hg.cell (a := ⟨wr.heap.size, 0, none⟩) (v := .int .u8 102) (by go_simp) (by simp; omega)
            have y1 := hg.cell (a := ⟨wr.heap.size, 1, none⟩) (v := .int .u8 12) (by go_simp) (by simp; omega)
            obtain ⟨v, RV2⟩ := R2.rv
            have HV := Lib.hid RV2
            have HA := Lib.hid ((RV2.alloc (.cells #[.int .u8 12] 5)).drew)
            have HB := Lib.hid (byt_one (w := w3) 12 12 (by decide) _ rfl)
            obtain ⟨c0, c1, c2, c3, cf⟩ := RV2.cells
            have f2 := cf 3
            have ca := (RV2.alloc (.cells #[.int .u8 12] 5)).cells.2.2.2.1
            clear cf RV2 R2 hg c2
            go_wp2_with fail
            go_region_law (first
              | (refine tstep_app rfl (.tmp 25) (.tmp 28) 48 rfl W.heap.size 5 i0 (.int .u8 0) 1 Tryz.underlying48 hi hz0 hz1 hz2 rfl v t.length (bytV t) rfl HA.out.2.2.2 (some ⟨w3.heap.size, 0, none⟩) 1 1 _ [12] rfl rfl HB.out (fun h => by cases h) (by unfold maxLen; omega) (by omega) HA.out.1.size ?_; intro v' w5 hown5 hg5; obtain ⟨⟨A', n', cp', rfl⟩, h5, R5⟩ := TV.text HA.out hown5 hg5; obtain ⟨c0', c1', c2', c3', cf'⟩ := td_cells h5; have f2' := cf' 3; clear cf' h5 hown5 hg5 c2'))
            all_goals (have HR5 := Lib.hid R5; clear R5)
            all_goals go_wp2_with fail
            all_goals go_ret
            all_goals exact .inr ⟨[12], 2, TK.out, by omega, HQ2.out, by simp, rfl, HR5.out⟩
        · have hix := tix_4 wr
          cases h4 : tkC l (q + 1) 114
          · have H4 := Lib.hid h4
            clear h4
            go_wp2_with fail
            refine (ttake_n 114 (HRr.out.alloc _) HS.out HL.out HQ.out H4.out).mono ?_
            rintro e w3 ⟨rfl, R2⟩
            have N := Lib.hid (HE.out.next rfl H4.out R2)
            clear R2
            go_wp2_with fail
            go_roundw
            case rel => exact ⟨5, by omega, by go_num, N.out⟩
            case measure => simp [intOf]
          · have H4 := Lib.hid h4
            have TK := Lib.hid (es_at (c := 114) (b := 13) h4 (by decide))
            have HQ2 := Lib.hid (tkC_lt h4)
            clear h4
            go_wp2_with fail
            refine (ttake_yg 114 (HRr.out.alloc _) HS.out HL.out H4.out).mono ?_
            rintro e w3 ⟨rfl, R2, hg⟩
            have y0 := hg.cell (a := ⟨wr.heap.size, 0, none⟩) (v := .int .u8 114) (by go_simp) (by simp; omega)
            have y1 := hg.cell (a := ⟨wr.heap.size, 1, none⟩) (v := .int .u8 13) (by go_simp) (by simp; omega)
            obtain ⟨v, RV2⟩ := R2.rv
            have HV := Lib.hid RV2
            have HA := Lib.hid ((RV2.alloc (.cells #[.int .u8 13] 5)).drew)
            have HB := Lib.hid (byt_one (w := w3) 13 13 (by decide) _ rfl)
            obtain ⟨c0, c1, c2, c3, cf⟩ := RV2.cells
            have f2 := cf 3
            have ca := (RV2.alloc (.cells #[.int .u8 13] 5)).cells.2.2.2.1
            clear cf RV2 R2 hg c2
            go_wp2_with fail
            go_region_law (first
              | (refine tstep_app rfl (.tmp 25) (.tmp 28) 48 rfl W.heap.size 5 i0 (.int .u8 0) 1 Tryz.underlying48 hi hz0 hz1 hz2 rfl v t.length (bytV t) rfl HA.out.2.2.2 (some ⟨w3.heap.size, 0, none⟩) 1 1 _ [13] rfl rfl HB.out (fun h => by cases h) (by unfold maxLen; omega) (by omega) HA.out.1.size ?_; intro v' w5 hown5 hg5; obtain ⟨⟨A', n', cp', rfl⟩, h5, R5⟩ := TV.text HA.out hown5 hg5; obtain ⟨c0', c1', c2', c3', cf'⟩ := td_cells h5; have f2' := cf' 3; clear cf' h5 hown5 hg5 c2'))
            all_goals (have HR5 := Lib.hid R5; clear R5)
            all_goals go_wp2_with fail
            all_goals go_ret
            all_goals exact .inr ⟨[13], 2, TK.out, by omega, HQ2.out, by simp, rfl, HR5.out⟩
        · have hix := tix_5 wr
          cases h4 : tkC l (q + 1) 34
          · have H4 := Lib.hid h4
            clear h4
            go_wp2_with fail
            refine (ttake_n 34 (HRr.out.alloc _) HS.out HL.out HQ.out H4.out).mono ?_
            rintro e w3 ⟨rfl, R2⟩
            have N := Lib.hid (HE.out.next rfl H4.out R2)
            clear R2
            go_wp2_with fail
            go_roundw
            case rel => exact ⟨6, by omega, by go_num, N.out⟩
            case measure => simp [intOf]
          · have H4 := Lib.hid h4
            have TK := Lib.hid (es_at (c := 34) (b := 34) h4 (by decide))
            have HQ2 := Lib.hid (tkC_lt h4)
            clear h4
            go_wp2_with fail
            refine (ttake_yg 34 (HRr.out.alloc _) HS.out HL.out H4.out).mono ?_
            rintro e w3 ⟨rfl, R2, hg⟩
            have y0 := hg.cell (a := ⟨wr.heap.size, 0, none⟩) (v := .int .u8 34) (by go_simp) (by simp; omega)
            have y1 := hg.cell (a := ⟨wr.heap.size, 1, none⟩) (v := .int .u8 34) (by go_simp) (by simp; omega)
            obtain ⟨v, RV2⟩ := R2.rv
            have HV := Lib.hid RV2
            have HA := Lib.hid ((RV2.alloc (.cells #[.int .u8 34] 5)).drew)
            have HB := Lib.hid (byt_one (w := w3) 34 34 (by decide) _ rfl)
            obtain ⟨c0, c1, c2, c3, cf⟩ := RV2.cells
            have f2 := cf 3
            have ca := (RV2.alloc (.cells #[.int .u8 34] 5)).cells.2.2.2.1
            clear cf RV2 R2 hg c2
            go_wp2_with fail
            go_region_law (first
              | (refine tstep_app rfl (.tmp 25) (.tmp 28) 48 rfl W.heap.size 5 i0 (.int .u8 0) 1 Tryz.underlying48 hi hz0 hz1 hz2 rfl v t.length (bytV t) rfl HA.out.2.2.2 (some ⟨w3.heap.size, 0, none⟩) 1 1 _ [34] rfl rfl HB.out (fun h => by cases h) (by unfold maxLen; omega) (by omega) HA.out.1.size ?_; intro v' w5 hown5 hg5; obtain ⟨⟨A', n', cp', rfl⟩, h5, R5⟩ := TV.text HA.out hown5 hg5; obtain ⟨c0', c1', c2', c3', cf'⟩ := td_cells h5; have f2' := cf' 3; clear cf' h5 hown5 hg5 c2'))
            all_goals (have HR5 := Lib.hid R5; clear R5)
            all_goals go_wp2_with fail
            all_goals go_ret
            all_goals exact .inr ⟨[34], 2, TK.out, by omega, HQ2.out, by simp, rfl, HR5.out⟩
        · have hix := tix_6 wr
          cases h4 : tkC l (q + 1) 92
          · have H4 := Lib.hid h4
            clear h4
            go_wp2_with fail
            refine (ttake_n 92 (HRr.out.alloc _) HS.out HL.out HQ.out H4.out).mono ?_
            rintro e w3 ⟨rfl, R2⟩
            have N := Lib.hid (HE.out.next rfl H4.out R2)
            clear R2
            go_wp2_with fail
            go_roundw
            case rel => exact ⟨7, by omega, by go_num, N.out⟩
            case measure => simp [intOf]
          · have H4 := Lib.hid h4
            have TK := Lib.hid (es_at (c := 92) (b := 92) h4 (by decide))
            have HQ2 := Lib.hid (tkC_lt h4)
            clear h4
            go_wp2_with fail
            refine (ttake_yg 92 (HRr.out.alloc _) HS.out HL.out H4.out).mono ?_
            rintro e w3 ⟨rfl, R2, hg⟩
            have y0 := hg.cell (a := ⟨wr.heap.size, 0, none⟩) (v := .int .u8 92) (by go_simp) (by simp; omega)
            have y1 := hg.cell (a := ⟨wr.heap.size, 1, none⟩) (v := .int .u8 92) (by go_simp) (by simp; omega)
            obtain ⟨v, RV2⟩ := R2.rv
            have HV := Lib.hid RV2
            have HA := Lib.hid ((RV2.alloc (.cells #[.int .u8 92] 5)).drew)
            have HB := Lib.hid (byt_one (w := w3) 92 92 (by decide) _ rfl)
            obtain ⟨c0, c1, c2, c3, cf⟩ := RV2.cells
            have f2 := cf 3
            have ca := (RV2.alloc (.cells #[.int .u8 92] 5)).cells.2.2.2.1
            clear cf RV2 R2 hg c2
            go_wp2_with fail
            go_region_law (first
              | (refine tstep_app rfl (.tmp 25) (.tmp 28) 48 rfl W.heap.size 5 i0 (.int .u8 0) 1 Tryz.underlying48 hi hz0 hz1 hz2 rfl v t.length (bytV t) rfl HA.out.2.2.2 (some ⟨w3.heap.size, 0, none⟩) 1 1 _ [92] rfl rfl HB.out (fun h => by cases h) (by unfold maxLen; omega) (by omega) HA.out.1.size ?_; intro v' w5 hown5 hg5; obtain ⟨⟨A', n', cp', rfl⟩, h5, R5⟩ := TV.text HA.out hown5 hg5; obtain ⟨c0', c1', c2', c3', cf'⟩ := td_cells h5; have f2' := cf' 3; clear cf' h5 hown5 hg5 c2'))
            all_goals (have HR5 := Lib.hid R5; clear R5)
            all_goals go_wp2_with fail
            all_goals go_ret
            all_goals exact .inr ⟨[92], 2, TK.out, by omega, HQ2.out, by simp, rfl, HR5.out⟩
        · go_wp2_with fail
          go_ret
          refine .inl ⟨1, es_not H2.out H3.out (fun c b hc => ?_), rfl, HE.out.1⟩
          have hx := HE.out.2
          rcases sh_in hc with rfl | rfl | rfl | rfl | rfl | rfl | rfl
          · exact hx 0 (by omega)
          · exact hx 1 (by omega)
          · exact hx 2 (by omega)
          · exact hx 3 (by omega)
          · exact hx 4 (by omega)
          · exact hx 5 (by omega)
          · exact hx 6 (by omega)
    · have H3 := Lib.hid h3
      have H5 := Lib.hid (es_85 h3)
      have HQ2 := Lib.hid (tkC_lt h3)
      clear h3
      go_enter Tryz.func275, Tryz.ntmps275
      go_wp2_with fail
      refine (ttake_n 117 HR.out HS.out HL.out HQ.out H2.out).mono ?_
      rintro e w1 ⟨rfl, R1⟩
      have HR1 := Lib.hid R1
      clear R1
      go_wp2_with fail
      refine (ttake_y 85 HR1.out HS.out HL.out H3.out).mono ?_
      rintro e w2 ⟨rfl, R2⟩
      have HR2 := Lib.hid R2
      clear R2
      go_wp2_with fail
      refine (tnumbered_any (many := 8) 8 rfl (by omega) HR2.out HS.out HL.out HQ2.out (by have := HT.out; omega) (fun n r => HH.out _ 8 n r (.inr rfl))).mono ?_
      rintro e w3 h
      have HP := Lib.hid (TEsPost.num H5.out (by omega) h)
      have he : ∃ B, e = .returned (.bool B) := by
        rcases h with ⟨_, _, e1, _⟩ | ⟨_, _, _, _, e1, _⟩ | ⟨_, _, _, _, _, e1, _⟩
        · exact ⟨_, e1⟩
        · exact ⟨_, e1⟩
        · exact ⟨_, e1⟩
      obtain ⟨B, rfl⟩ := he
      clear h
      go_wp2_with fail
      go_ret
      exact HP.out
  · have H2 := Lib.hid h2
    have H5 := Lib.hid (es_117 h2)
    have HQ2 := Lib.hid (tkC_lt h2)
    clear h2
    go_enter Tryz.func275, Tryz.ntmps275
    go_wp2_with fail
    refine (ttake_y 117 HR.out HS.out HL.out H2.out).mono ?_
    rintro e w2 ⟨rfl, R2⟩
    have HR2 := Lib.hid R2
    clear R2
    go_wp2_with fail
    refine (tnumbered_any (many := 4) 4 rfl (by omega) HR2.out HS.out HL.out HQ2.out (by have := HT.out; omega) (fun n r => HH.out _ 4 n r (.inl rfl))).mono ?_
    rintro e w3 h
    have HP := Lib.hid (TEsPost.num H5.out (by omega) h)
    have he : ∃ B, e = .returned (.bool B) := by
      rcases h with ⟨_, _, e1, _⟩ | ⟨_, _, _, _, e1, _⟩ | ⟨_, _, _, _, _, e1, _⟩
      · exact ⟨_, e1⟩
      · exact ⟨_, e1⟩
      · exact ⟨_, e1⟩
    obtain ⟨B, rfl⟩ := he
    clear h
    go_wp2_with fail
    go_ret
    exact HP.out
end
end Go.Proofs.YtbeefjhcbphiaaaGreatDoor
