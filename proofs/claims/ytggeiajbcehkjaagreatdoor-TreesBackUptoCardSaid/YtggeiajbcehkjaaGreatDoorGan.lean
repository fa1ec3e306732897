/- The small functions of strings: digits, plain bytes, halves of pairs. -/
import Derived.Test.YtggeiajbcehkjaaGreatDoorGal
import Derived.Test.YtggeiajbcehkjaaGreatDoorGaa
import Derived.BigQuiet
import Derived.Deep.QuietTactic
import Derived.Test.YtggeiajbcehkjaaGreatDoorGam
import Derived.LoopTactic
import Derived.Outline
import Derived.Deep.LoopGhost
import Derived.Deep.RegionWith
namespace Go.Proofs.YtggeiajbcehkjaaGreatDoor
open Go.RowKit

/-- A digit's value; -1: none. -/
def dgI (c : Int) : Int := if 48 ≤ c ∧ c ≤ 57 then c - 48 else if 97 ≤ c ∧ c ≤ 102 then c - 87 else if 65 ≤ c ∧ c ≤ 70 then c - 55 else -1
theorem dgI_dig (c : UInt8) : dgI (c.toNat : Int) = match Qu.dig c with | some d => (d : Int) | none => -1 := by
  unfold dgI Qu.dig
  by_cases a : 48 ≤ c.toNat ∧ c.toNat ≤ 57
  · rw [if_pos (by omega), if_pos a]; simp only; omega
  rw [if_neg (by omega), if_neg a]
  by_cases a : 97 ≤ c.toNat ∧ c.toNat ≤ 102
  · rw [if_pos (by omega), if_pos a]; simp only; omega
  rw [if_neg (by omega), if_neg a]
  by_cases a : 65 ≤ c.toNat ∧ c.toNat ≤ 70
  · rw [if_pos (by omega), if_pos a]; simp only; omega
  rw [if_neg (by omega), if_neg a]
theorem dgI_bd (c : Int) : -1 ≤ dgI c ∧ dgI c ≤ 15 := by unfold dgI; repeat' split
                                                         all_goals omega
theorem sub8 {c k : Int} (h : k ≤ c) (h0 : 0 ≤ k) (h1 : c ≤ 255) : IntKind.u8.wrap (c - k) = c - k := by rw [IntKind.wrap_u8']; omega
theorem digit_any (c : Int) (h0 : 0 ≤ c) (h1 : c ≤ 255) (w : World) : Calls Tryz.prog 272 #[.int .u8 c] w fun e w' => e = .returned (.int .i64 (dgI c)) ∧ w = w' := by
  by_cases a1 : 48 ≤ c
  · by_cases a2 : c ≤ 57
    · have E := Lib.hid (show dgI c = c - 48 by rw [dgI, if_pos (by omega)])
      have hw := sub8 (c := c) (k := 48) (by omega) (by omega) h1
      have hw2 := h1
      go_enter Tryz.func272, Tryz.ntmps272
      go_wp2_with fail
      go_ret
      exact ⟨ret_int (by rw [E.out]; try omega), rfl⟩
    · by_cases b1 : 97 ≤ c
      · by_cases b2 : c ≤ 102
        · have E := Lib.hid (show dgI c = c - 87 by rw [dgI, if_neg (by omega), if_pos (by omega)])
          have hw := sub8 (c := c) (k := 97) (by omega) (by omega) h1
          have hw2 := h1
          go_enter Tryz.func272, Tryz.ntmps272
          go_wp2_with fail
          go_ret
          exact ⟨ret_int (by rw [E.out]; try omega), rfl⟩
        · have E := Lib.hid (show dgI c = -1 by rw [dgI, if_neg (by omega), if_neg (by omega), if_neg (by omega)])
          go_enter Tryz.func272, Tryz.ntmps272
          go_wp2_with fail
          go_ret
          exact ⟨ret_int (by rw [E.out]; try omega), rfl⟩
      · by_cases d1 : 65 ≤ c
        · by_cases d2 : c ≤ 70
          · have E := Lib.hid (show dgI c = c - 55 by rw [dgI, if_neg (by omega), if_neg (by omega), if_pos (by omega)])
            have hw := sub8 (c := c) (k := 65) (by omega) (by omega) h1
            have hw2 := h1
            go_enter Tryz.func272, Tryz.ntmps272
            go_wp2_with fail
            go_ret
            exact ⟨ret_int (by rw [E.out]; try omega), rfl⟩
          · have E := Lib.hid (show dgI c = -1 by rw [dgI, if_neg (by omega), if_neg (by omega), if_neg (by omega)])
            go_enter Tryz.func272, Tryz.ntmps272
            go_wp2_with fail
            go_ret
            exact ⟨ret_int (by rw [E.out]; try omega), rfl⟩
        · have E := Lib.hid (show dgI c = -1 by rw [dgI, if_neg (by omega), if_neg (by omega), if_neg (by omega)])
          go_enter Tryz.func272, Tryz.ntmps272
          go_wp2_with fail
          go_ret
          exact ⟨ret_int (by rw [E.out]; try omega), rfl⟩
  · have E := Lib.hid (show dgI c = -1 by rw [dgI, if_neg (by omega), if_neg (by omega), if_neg (by omega)])
    go_enter Tryz.func272, Tryz.ntmps272
    go_wp2_with fail
    go_ret
    exact ⟨ret_int (by rw [E.out]; try omega), rfl⟩
/-- May a byte stand for itself? -/
def jplnI (c : Int) : Bool := decide (32 ≤ c ∧ c ≠ 34 ∧ c ≠ 92)
theorem jplain_any (c : Int) (w : World) : Calls Tryz.prog 240 #[.int .u8 c] w fun e w' => e = .returned (.bool (jplnI c)) ∧ w = w' := by
  by_cases a : 32 ≤ c
  · by_cases b : c = 34
    · subst b
      go_enter Tryz.func240, Tryz.ntmps240
      go_wp2_with fail
      go_ret
      exact ⟨ret_bool (by simp [jplnI]), rfl⟩
    · by_cases d : c = 92
      · subst d
        go_enter Tryz.func240, Tryz.ntmps240
        go_wp2_with fail
        go_ret
        exact ⟨ret_bool (by simp [jplnI]), rfl⟩
      · have g1 : (c != 34) = true := by simp [b]
        have g2 : (c != 92) = true := by simp [d]
        go_enter Tryz.func240, Tryz.ntmps240
        go_wp2_with fail
        go_ret
        exact ⟨ret_bool (by simp [jplnI, a, b, d]), rfl⟩
  · go_enter Tryz.func240, Tryz.ntmps240
    go_wp2_with fail
    go_ret
    exact ⟨ret_bool (by simp [jplnI]; omega), rfl⟩
/-- Is a number a high one, a low one? -/
def hiI (n : Int) : Bool := decide (55296 ≤ n ∧ n < 56320)
def loI (n : Int) : Bool := decide (56320 ≤ n ∧ n < 57344)
theorem high_any (n : Int) (w : World) : Calls Tryz.prog 256 #[.int .i64 n] w fun e w' => e = .returned (.bool (hiI n)) ∧ w = w' := by
  by_cases a : 55296 ≤ n
  · go_enter Tryz.func256, Tryz.ntmps256
    go_wp2_with fail
    go_ret
    exact ⟨ret_bool (by simp [hiI, a]), rfl⟩
  · go_enter Tryz.func256, Tryz.ntmps256
    go_wp2_with fail
    go_ret
    exact ⟨ret_bool (by simp [hiI]; omega), rfl⟩
theorem low_any (n : Int) (w : World) : Calls Tryz.prog 258 #[.int .i64 n] w fun e w' => e = .returned (.bool (loI n)) ∧ w = w' := by
  by_cases a : 56320 ≤ n
  · go_enter Tryz.func258, Tryz.ntmps258
    go_wp2_with fail
    go_ret
    exact ⟨ret_bool (by simp [loI, a]), rfl⟩
  · go_enter Tryz.func258, Tryz.ntmps258
    go_wp2_with fail
    go_ret
    exact ⟨ret_bool (by simp [loI]; omega), rfl⟩
theorem hiI_high (n : Nat) : hiI n = Qu.high n := by
  unfold hiI Qu.high; rw [decide_eq_decide]; omega
theorem loI_low (n : Nat) : loI n = Qu.low n := by
  unfold loI Qu.low; rw [decide_eq_decide]; omega
end Go.Proofs.YtggeiajbcehkjaaGreatDoor
/- The reader's stretch of plain bytes. -/
namespace Go.Proofs.YtggeiajbcehkjaaGreatDoor
open Go.RowKit

/-- Where the plain bytes from k on end. -/
def prn (l : List UInt8) (k : Nat) : Nat := if k < l.length ∧ jplnI (bt l k) = true then prn l (k + 1) else k
termination_by l.length - k
theorem prn_on {l : List UInt8} {k : Nat} (h1 : k < l.length) (h2 : jplnI (bt l k) = true) : prn l k = prn l (k + 1) := by rw [prn, if_pos ⟨h1, h2⟩]
theorem prn_end {l : List UInt8} {k : Nat} (h : ¬ (k < l.length ∧ jplnI (bt l k) = true)) : prn l k = k := by rw [prn, if_neg h]
theorem prn_ge (l : List UInt8) (k : Nat) : k ≤ prn l k := by
  rw [prn]; split
  · have := prn_ge l (k + 1); omega
  · exact Nat.le_refl _
termination_by l.length - k
theorem jplain_is {c : Int} {x : Bool} (hx : x = jplnI c) (w : World) : Calls Tryz.prog 240 #[.int .u8 c] w fun e w' => e = .returned (.bool x) ∧ w = w' := hx ▸ jplain_any c w
theorem jstrCells_txt (l : List UInt8) : Lib.strCells (txt l) = bytV l := by
  simp [Lib.strCells, bytV, txt]

/-- append of a text within a region that draws. -/
theorem step_str {P : Program} {w : World} {ops : Array Oper} {o : Oper} {a : Act} {K : Act → World → Prop} {Q : Exit → Act → World → Prop} {E : Prop} (hgd : o.guard = none) (sl x : Operand) (t u : TypeId)
    (ho : o.op = .call { callee := .builtin .append, args := #[sl, x], argTypes := #[t, u] })
    (base : Nat) (e : TypeId) (i : TypeInfo) (ht : P.underlying t = some (.slice e)) (hu : P.underlying u = some .string) (hi : P.info? e = some i) (hz : i.zero = some (.int .u8 0)) (hsize : i.size = 1) (hby : i.bytes = 1)
    (v : Value) (n : Nat) (xs : List Value) (hs : a.eval sl = v) (hown : w.ownsRow base e 1 v n xs) (s : ByteArray) (hx : a.eval x = .string s)
    (h63 : n + s.size ≤ maxLen) (hbytes : n + s.size ≤ 140737488355328) (hbase : base ≤ w.heap.size)
    (h : ∀ v' w', w'.ownsRow base e 1 v' (n + s.size) (xs ++ Lib.strCells s) → w.grownBy w' v.ownBlock → K (a.put o.dst v') w') :
    if Region.wanted o (yielded ops a.tmps) = true then Oper.wp P o a w K Q else E := by
  have hw : Region.wanted o (yielded ops a.tmps) = true := by simp [Region.wanted, hgd]
  rw [if_pos hw]
  obtain ⟨v', w', hr, h2, h3, _⟩ := Lib.run_append_own_string (P := P) w base t u o.type e i ht hu hi hz hsize hby v n xs hown s h63 hbytes hbase
  unfold Oper.wp
  simp [execOp, ho, resolve, invoke, builtin, hs, hx, hr, Result.andThen]
  exact h v' w' h2 h3
/-- Where the reader stands. -/
def posOf (b : Nat) (w : World) : Nat := match w.cell? ⟨b, 1, none⟩ with | some v => (intOf v).toNat | none => 0
theorem RS.posOf {W w : World} {b : Nat} {s : ByteArray} {p : Nat} {t : List UInt8} (h : RS W b s w p t) : posOf b w = p := by
  obtain ⟨_, _, v, h3, _⟩ := h
  obtain ⟨_, c1, _⟩ := rd_cells h3
  simp [Proofs.YtggeiajbcehkjaaGreatDoor.posOf, c1, intOf]
section
variable {W w : World} {b : Nat} {s : ByteArray} {p : Nat} {t l : List UInt8}
set_option maxHeartbeats 1000000 in
theorem stretch_any (h : RS W b s w p t) (hs : s = txt l) (hl : l.length ≤ 1000000) (hp : p ≤ l.length) (ht : t.length ≤ 4 * p) :
    Calls Tryz.prog 215 #[.pointer (some ⟨b, 0, none⟩)] w fun e w' => e = .returned (.bool (decide (p < prn l p))) ∧ RS W b s w' (prn l p) (t ++ (l.take (prn l p)).drop p) := by
  obtain ⟨i0, hi, hz0, hz1, hz2⟩ := info_parts (show (Tryz.prog.info? 5).map (fun i => (i.zero, i.size, i.bytes)) = some (some (.int .u8 0), 1, 1) by kernel_rfl)
  have R0 := h
  have HS := Lib.hid hs
  have HL := Lib.hid hl
  have HP := Lib.hid hp
  have HT := Lib.hid ht
  obtain ⟨_, _, v0, h30, _⟩ := h
  obtain ⟨_, c10, _, _⟩ := rd_cells h30
  clear hs hl hp ht h30
  go_enter Tryz.func215, Tryz.ntmps215
  go_wp2_with fail
  clear c10
  go_loopw [] (fun wr => ∃ k : Nat, p ≤ k ∧ k ≤ l.length ∧ prn l p = prn l k ∧ RS W b s wr k t) (fun wr => s.size - posOf b wr)
  case atStart => exact ⟨p, Nat.le_refl _, HP.out, rfl, R0⟩
  case round =>
    obtain ⟨k, hpk, hk, hkr, R⟩ := hrel
    clear R0
    have HR := Lib.hid R
    have HK := Lib.hid hkr
    have hsz : s.size = l.length := by rw [HS.out, txt_size]
    obtain ⟨r1, r2, v, h3, h4⟩ := R
    obtain ⟨c0, c1, c2, cf⟩ := rd_cells h3
    have f1 := cf 1
    have hm : s.size ≤ 1000000 := by have := HL.out; omega
    have HK2 := Lib.hid hk
    have HB := Lib.hid hpk
    have H3 := Lib.hid h3
    have H4 := Lib.hid h4
    have H1 := Lib.hid r1
    clear hkr h3 cf hk h4 r1
    by_cases hq : k < l.length
    · have hx := txt_at HS.out (k := k)
      have hz : k < s.size := by omega
      obtain ⟨y, HY⟩ : ∃ y, Hid (y = bt l k) := ⟨_, rfl⟩
      rw [← HY.out] at hx
      obtain ⟨x, HX⟩ : ∃ x, Hid (x = jplnI y) := ⟨_, rfl⟩
      cases x
      · have E := Lib.hid (prn_end (l := l) (k := k) (by rw [← HY.out, ← HX.out]; simp))
        clear hq hpk hsz
        go_wp2_with fail
        go_quiet (first | (go_at_call 240; refine (jplain_is HX.out _).mono ?_; rintro _ _ ⟨rfl, rfl⟩; exact ⟨rfl, _, rfl⟩))
        go_wp2_with fail
        have R2 := HR.out.drewN nq
        obtain ⟨w2, HW2⟩ : ∃ w2, w2 = wr.drewN nq := ⟨_, rfl⟩
        rw [← HW2] at R2 ⊢
        clear HW2 c0 c1 c2 f1 H3 H4 H1 r2
        have HK3 := Lib.hid (show prn l p = k by rw [HK.out, E.out])
        have HU := Lib.hid (show s.extract p k = txt ((l.take k).drop p) by rw [HS.out, txt_cut])
        have hul : ((l.take k).drop p).length ≤ 1000000 := by simp; have := HL.out; omega
        have hbb : (p : Int) ≤ k := by have := HB.out; omega
        have htl : t.length ≤ 4000000 := by have := HT.out; have := HP.out; have := HL.out; omega
        have hks : (k : Int) ≤ s.size := by have := HK2.out; have := HS.out; rw [this, txt_size]; omega
        have hb1 : W.heap.size ≤ w2.heap.size := R2.1.size
        obtain ⟨r1, r2, v, h3, h4⟩ := R2
        obtain ⟨c0, c1, c2, cf⟩ := rd_cells h3
        have f2 := cf 2
        have H3 := Lib.hid h3
        have H4 := Lib.hid h4
        have H1 := Lib.hid r1
        have H2 := Lib.hid r2
        clear h3 h4 r1 r2 cf E
        go_region_law (first | (refine step_str (w := w2.drew) rfl (.tmp 41) (.tmp 51) 41 9 rfl W.heap.size 5 i0 Tryz.underlying41 Tryz.underlying9 hi hz0 hz1 hz2 v t.length (bytV t) rfl H4.out.drew (s.extract p k) rfl (by rw [HU.out, txt_size]; unfold maxLen; omega) (by rw [HU.out, txt_size]; omega) hb1 ?_; intro v' w3 hown3 hg3; rw [HU.out, jstrCells_txt, txt_size] at hown3; obtain ⟨⟨A', n', cp', rfl⟩, h5, R3⟩ := RS.text (w := w2) (p := k) H1.out H2.out H3.out H4.out hown3 (jgDrew hg3); obtain ⟨c0', c1', c2', cf'⟩ := rd_cells h5; have f2' := cf' 2; clear cf' h5 hown3 hg3))
        all_goals (have HR3 := Lib.hid R3; obtain ⟨_, _, v9, h9, _⟩ := R3; obtain ⟨_, d1, _, _⟩ := rd_cells h9; clear h9)
        all_goals go_wp2_with fail
        all_goals go_ret
        all_goals exact ⟨by rw [HK3.out]; rfl, by rw [HK3.out]; exact HR3.out⟩
      · have E := Lib.hid (prn_on (l := l) (k := k) hq (by rw [← HY.out, ← HX.out]))
        have hq1 : k + 1 ≤ l.length := hq
        clear hq hpk hsz
        go_wp2_with fail
        go_quiet (first | (go_at_call 240; refine (jplain_is HX.out _).mono ?_; rintro _ _ ⟨rfl, rfl⟩; exact ⟨rfl, _, rfl⟩))
        go_wp2_with fail
        go_roundw
        case rel =>
          refine ⟨k + 1, by have := HB.out; omega, hq1, by rw [HK.out, E.out], ?_⟩
          have := (HR.out.drewN nq).pos ((k + 1 : Nat) : Int)
          simpa using this
        case measure =>
          have := (HR.out.drewN nq).pos ((k + 1 : Nat) : Int)
          rw [HR.out.posOf]
          have := RS.posOf this
          simp at this
          rw [this]; omega
    · have E := Lib.hid (prn_end (l := l) (k := k) (by simp [hq]))
      have g1 : decide (k < s.size) = false := decide_eq_false (by omega)
      clear hq hpk hsz
      go_wp2_with fail
      go_quiet (fail)
      go_wp2_with fail
      have R2 := HR.out.drewN nq
      obtain ⟨w2, HW2⟩ : ∃ w2, w2 = wr.drewN nq := ⟨_, rfl⟩
      rw [← HW2] at R2 ⊢
      clear HW2 c0 c1 c2 f1 H3 H4 H1 r2
      have HK3 := Lib.hid (show prn l p = k by rw [HK.out, E.out])
      have HU := Lib.hid (show s.extract p k = txt ((l.take k).drop p) by rw [HS.out, txt_cut])
      have hul : ((l.take k).drop p).length ≤ 1000000 := by simp; have := HL.out; omega
      have hbb : (p : Int) ≤ k := by have := HB.out; omega
      have htl : t.length ≤ 4000000 := by have := HT.out; have := HP.out; have := HL.out; omega
      have hks : (k : Int) ≤ s.size := by have := HK2.out; have := HS.out; rw [this, txt_size]; omega
      have hb1 : W.heap.size ≤ w2.heap.size := R2.1.size
      obtain ⟨r1, r2, v, h3, h4⟩ := R2
      obtain ⟨c0, c1, c2, cf⟩ := rd_cells h3
      have f2 := cf 2
      have H3 := Lib.hid h3
      have H4 := Lib.hid h4
      have H1 := Lib.hid r1
      have H2 := Lib.hid r2
      clear h3 h4 r1 r2 cf E
      go_region_law (first | (refine step_str (w := w2.drew) rfl (.tmp 41) (.tmp 51) 41 9 rfl W.heap.size 5 i0 Tryz.underlying41 Tryz.underlying9 hi hz0 hz1 hz2 v t.length (bytV t) rfl H4.out.drew (s.extract p k) rfl (by rw [HU.out, txt_size]; unfold maxLen; omega) (by rw [HU.out, txt_size]; omega) hb1 ?_; intro v' w3 hown3 hg3; rw [HU.out, jstrCells_txt, txt_size] at hown3; obtain ⟨⟨A', n', cp', rfl⟩, h5, R3⟩ := RS.text (w := w2) (p := k) H1.out H2.out H3.out H4.out hown3 (jgDrew hg3); obtain ⟨c0', c1', c2', cf'⟩ := rd_cells h5; have f2' := cf' 2; clear cf' h5 hown3 hg3))
      all_goals (have HR3 := Lib.hid R3; obtain ⟨_, _, v9, h9, _⟩ := R3; obtain ⟨_, d1, _, _⟩ := rd_cells h9; clear h9)
      all_goals go_wp2_with fail
      all_goals go_ret
      all_goals exact ⟨by rw [HK3.out]; rfl, by rw [HK3.out]; exact HR3.out⟩
end
end Go.Proofs.YtggeiajbcehkjaaGreatDoor
/- The reader's four digits, and the low half behind a high one. -/
namespace Go.Proofs.YtggeiajbcehkjaaGreatDoor
open Go.RowKit

def hxS (k : Nat) : Nat ⊕ (Nat × List UInt8) → Nat ⊕ (Nat × List UInt8)
  | .inl j => .inl (k + j)
  | .inr x => .inr x
theorem hxS_hxS (a c : Nat) (x : Nat ⊕ (Nat × List UInt8)) : hxS a (hxS c x) = hxS (a + c) x := by cases x <;> simp [hxS, Nat.add_assoc]
theorem drop_at {l : List UInt8} {q : Nat} (h : q < l.length) : ∃ c, l.drop q = c :: l.drop (q + 1) ∧ bt l q = (c.toNat : Int) :=
  ⟨l[q], List.drop_eq_getElem_cons h, by simp [bt, h]⟩
theorem hx_step {l : List UInt8} {q m n : Nat} (h : q < l.length) (hd : 0 ≤ dgI (bt l q)) : Qu.hx (m + 1) n (l.drop q) = hxS 1 (Qu.hx m (16 * n + (dgI (bt l q)).toNat) (l.drop (q + 1))) := by
  obtain ⟨c, hc, hb⟩ := drop_at h
  have e := dgI_dig c
  rw [hb] at hd ⊢
  rw [hc, Qu.hx]
  cases hg : Qu.dig c with
  | none => rw [hg] at e; simp only at e; omega
  | some d =>
    rw [hg] at e
    simp only at e
    rw [e]
    simp only [Int.toNat_natCast]
    cases Qu.hx m (16 * n + d) (l.drop (q + 1)) <;> simp [hxS, Nat.add_comm]
theorem hx_none {l : List UInt8} {q m n : Nat} (h : q < l.length) (hd : dgI (bt l q) < 0) : Qu.hx (m + 1) n (l.drop q) = .inl 0 := by
  obtain ⟨c, hc, hb⟩ := drop_at h
  have e := dgI_dig c
  rw [hb] at hd
  rw [hc, Qu.hx]
  cases hg : Qu.dig c with
  | none => rfl
  | some d => rw [hg] at e; simp only at e; omega
theorem hx_off {l : List UInt8} {q m n : Nat} (h : l.length ≤ q) : Qu.hx (m + 1) n (l.drop q) = .inl 0 := by
  rw [List.drop_eq_nil_of_le h]; rfl
theorem digit_is {c x : Int} (hx : x = dgI c) (h0 : 0 ≤ c) (h1 : c ≤ 255) (w : World) : Calls Tryz.prog 272 #[.int .u8 c] w fun e w' => e = .returned (.int .i64 x) ∧ w = w' := hx ▸ digit_any c h0 h1 w

def NumPost (W : World) (b : Nat) (s : ByteArray) (l : List UInt8) (p : Nat) (t : List UInt8) (e : Ending) (w' : World) : Prop :=
  (∃ j, Qu.hx 4 0 (l.drop p) = .inl j ∧ e = .returned (.tuple #[.int .i64 0, .bool false]) ∧ RS W b s w' ((p + j : Nat) : Int) t) ∨
  (∃ n : Nat, Qu.hx 4 0 (l.drop p) = .inr (n, l.drop (p + 4)) ∧ p + 4 ≤ l.length ∧ n < 65536 ∧ e = .returned (.tuple #[.int .i64 n, .bool true]) ∧ RS W b s w' ((p + 4 : Nat) : Int) t)
def NRel (W : World) (b : Nat) (s : ByteArray) (l : List UInt8) (p : Nat) (t : List UInt8) (k n : Nat) (wr : World) : Prop :=
  p + k ≤ l.length ∧ n < 16 ^ k ∧ Qu.hx 4 0 (l.drop p) = hxS k (Qu.hx (4 - k) n (l.drop (p + k))) ∧ RS W b s wr ((p + k : Nat) : Int) t
section
variable {W w : World} {b : Nat} {s : ByteArray} {p : Nat} {t l : List UInt8}
set_option maxHeartbeats 1000000 in
theorem number4_any (h : RS W b s w p t) (hs : s = txt l) (hl : l.length ≤ 1000000) (hp : p ≤ l.length) :
    Calls Tryz.prog 255 #[.pointer (some ⟨b, 0, none⟩)] w (NumPost W b s l p t) := by
  have R0 : NRel W b s l p t 0 0 w := ⟨hp, by simp, by cases Qu.hx 4 0 (l.drop p) <;> simp [hxS], h⟩
  have HS := Lib.hid hs
  have HL := Lib.hid hl
  clear h hs hl hp
  go_enter Tryz.func255, Tryz.ntmps255
  go_wp2_with fail
  go_loopw [2, 5] (fun v i wr => ∃ k n : Nat, k ≤ 4 ∧ i = .int .i64 k ∧ v = .int .i64 n ∧ NRel W b s l p t k n wr) (fun _ i _ => 4 - (intOf i).toNat)
  case atStart => exact ⟨0, 0, Nat.zero_le _, rfl, rfl, R0⟩
  case round =>
    obtain ⟨k, n, hk, rfl, rfl, R⟩ := hrel
    clear R0
    obtain ⟨q, HQ⟩ : ∃ q, Hid (q = p + k) := ⟨_, rfl⟩
    have hsz : s.size = l.length := by rw [HS.out, txt_size]
    by_cases hk4 : k < 4
    · have HR := Lib.hid R
      obtain ⟨r1, r2, r3, r4⟩ := R
      rw [← HQ.out] at r1 r4
      have hn : n ≤ 4095 := by
        have : 16 ^ k ≤ 16 ^ 3 := Nat.pow_le_pow_right (by omega) (by omega)
        omega
      obtain ⟨_, _, v, h3, _⟩ := r4
      obtain ⟨c0, c1, _, cf⟩ := rd_cells h3
      have f1 := cf 1
      clear r2 r3 h3 cf
      have hm : s.size ≤ 1000000 := by have := HL.out; omega
      by_cases hq : q < l.length
      · have hx := txt_at HS.out (k := q)
        have hz : q < s.size := by omega
        have g1 : ((q : Int) == (s.size : Int)) = false := by simp; omega
        have b0 := bt_lo l q
        have b1 := bt_hi l q
        obtain ⟨y, HY⟩ : ∃ y, Hid (y = bt l q) := ⟨_, rfl⟩
        rw [← HY.out] at hx b0 b1
        obtain ⟨x, HX⟩ : ∃ x, Hid (x = dgI y) := ⟨_, rfl⟩
        have hxb := dgI_bd y
        rw [← HX.out] at hxb
        obtain ⟨hx1, hx2⟩ := hxb
        clear r1 hsz
        by_cases hneg : x < 0
        · have E := Lib.hid (hx_none (m := 4 - k - 1) (n := n) hq (by rw [← HY.out, ← HX.out]; exact hneg))
          clear hq
          go_wp2_with fail
          go_quiet (fail)
          go_wp2_with fail
          go_quiet (first | (go_at_call 272; refine (digit_is HX.out b0 b1 _).mono ?_; rintro _ _ ⟨rfl, rfl⟩; exact ⟨rfl, _, rfl⟩))
          go_wp2_with fail
          go_ret2
          refine .inl ⟨k, ?_, rfl, ?_⟩
          · rw [HR.out.2.2.1, show 4 - k = 4 - k - 1 + 1 by omega, ← HQ.out, E.out]; rfl
          · exact HR.out.2.2.2.drewN _
        · have E := Lib.hid (hx_step (m := 4 - k - 1) (n := n) hq (by rw [← HY.out, ← HX.out]; omega))
          have hq1 : q + 1 ≤ l.length := by omega
          clear hq
          go_wp2_with fail
          go_quiet (fail)
          go_wp2_with fail
          go_quiet (first | (go_at_call 272; refine (digit_is HX.out b0 b1 _).mono ?_; rintro _ _ ⟨rfl, rfl⟩; exact ⟨rfl, _, rfl⟩))
          go_wp2_with fail
          go_roundw
          case rel =>
            refine ⟨k + 1, 16 * n + x.toNat, by omega, by go_num, by simp; omega, by have := HQ.out; omega, ?_, ?_, ?_⟩
            · have := HR.out.2.1
              rw [Nat.pow_succ]; omega
            · rw [HR.out.2.2.1, show 4 - k = 4 - k - 1 + 1 by omega, ← HQ.out, E.out, ← HY.out, ← HX.out, hxS_hxS, HQ.out]; rfl
            · rw [show ((p + (k + 1) : Nat) : Int) = (q : Int) + 1 by have := HQ.out; omega]
              have r4 := HR.out.2.2.2
              rw [← HQ.out] at r4
              exact (r4.drewN _).pos _
          case measure => simp [intOf]; omega
      · have E := Lib.hid (hx_off (l := l) (q := q) (m := 4 - k - 1) (n := n) (by omega))
        have g1 : ((q : Int) == (s.size : Int)) = true := by simp; omega
        clear hq r1 hsz
        go_wp2_with fail
        go_quiet (fail)
        go_wp2_with fail
        go_ret2
        refine .inl ⟨k, ?_, rfl, ?_⟩
        · rw [HR.out.2.2.1, show 4 - k = 4 - k - 1 + 1 by omega, ← HQ.out, E.out]; rfl
        · exact HR.out.2.2.2.drewN _
    · obtain rfl : k = 4 := by omega
      have HR := Lib.hid R
      clear R
      go_wp2_with fail
      go_ret2
      obtain ⟨r1, r2, r3, r4⟩ := HR.out
      exact .inr ⟨n, by rw [r3]; rfl, r1, by simpa using r2, rfl, r4⟩
end
end Go.Proofs.YtggeiajbcehkjaaGreatDoor
/- The reader's low half behind a high one. -/
namespace Go.Proofs.YtggeiajbcehkjaaGreatDoor
open Go.RowKit

/-- The low half that stands at p, whole. -/
def lowQ (l : List UInt8) (p : Nat) : Option Nat :=
  if tkB l p 92 = true ∧ tkB l (p + 1) 117 = true then (match Qu.hx 4 0 (l.drop (p + 2)) with | .inr x => if Qu.low x.1 = true then some x.1 else none | .inl _ => none) else none
def LowPost (W : World) (b : Nat) (s : ByteArray) (l : List UInt8) (p : Nat) (t : List UInt8) (e : Ending) (w' : World) : Prop :=
  (∃ m : Nat, lowQ l p = some m ∧ m < 65536 ∧ p + 6 ≤ l.length ∧ e = .returned (.tuple #[.int .i64 m, .bool true]) ∧ RS W b s w' ((p + 6 : Nat) : Int) t) ∨
  (lowQ l p = none ∧ ∃ (n : Int) (q : Nat), e = .returned (.tuple #[.int .i64 n, .bool false]) ∧ RS W b s w' q t)
theorem low_is {n : Nat} {x : Bool} (hx : x = Qu.low n) (w : World) : Calls Tryz.prog 258 #[.int .i64 n] w fun e w' => e = .returned (.bool x) ∧ w = w' := by rw [hx, ← loI_low]; exact low_any n w
theorem high_is {n : Nat} {x : Bool} (hx : x = Qu.high n) (w : World) : Calls Tryz.prog 256 #[.int .i64 n] w fun e w' => e = .returned (.bool x) ∧ w = w' := by rw [hx, ← hiI_high]; exact high_any n w
theorem take_y {W w : World} {b : Nat} {s : ByteArray} {p : Nat} {t l : List UInt8} (c : Int) (h : RS W b s w p t) (hs : s = txt l) (hl : l.length ≤ 1000000) (hc : tkB l p c = true) :
    Calls Tryz.prog 214 #[.pointer (some ⟨b, 0, none⟩), .int .u8 c] w fun e w' => e = .returned (.bool true) ∧ RS W b s w' ((p + 1 : Nat) : Int) t := by
  obtain ⟨h1, h2⟩ : p < l.length ∧ bt l p = c := by simpa [tkB] using hc
  exact take_yes h hs hl h1 h2
theorem take_n {W w : World} {b : Nat} {s : ByteArray} {p : Nat} {t l : List UInt8} (c : Int) (h : RS W b s w p t) (hs : s = txt l) (hl : l.length ≤ 1000000) (hp : p ≤ l.length) (hc : tkB l p c = false) :
    Calls Tryz.prog 214 #[.pointer (some ⟨b, 0, none⟩), .int .u8 c] w fun e w' => e = .returned (.bool false) ∧ RS W b s w' p t := by
  have := take_any h hs hl hp c (B := false) hc.symm
  simpa using this
theorem tkB_lt {l : List UInt8} {p : Nat} {c : Int} (h : tkB l p c = true) : p + 1 ≤ l.length := by
  have := of_decide_eq_true h; omega
section
variable {W w : World} {b : Nat} {s : ByteArray} {p : Nat} {t l : List UInt8}
set_option maxHeartbeats 1000000 in
theorem lowOne_any (h : RS W b s w p t) (hs : s = txt l) (hl : l.length ≤ 1000000) (hp : p ≤ l.length) :
    Calls Tryz.prog 257 #[.pointer (some ⟨b, 0, none⟩)] w (LowPost W b s l p t) := by
  have HR := Lib.hid h
  have HS := Lib.hid hs
  have HL := Lib.hid hl
  have HP := Lib.hid hp
  clear h hs hl hp
  cases a1 : tkB l p 92
  · have E := Lib.hid (show lowQ l p = none by rw [lowQ, if_neg (by simp [a1])])
    have A1 := Lib.hid a1
    clear a1
    go_enter Tryz.func257, Tryz.ntmps257
    go_wp2_with fail
    refine (take_n 92 HR.out HS.out HL.out HP.out A1.out).mono ?_
    rintro e w1 ⟨rfl, R1⟩
    have HR1 := Lib.hid R1
    clear R1
    go_wp2_with fail
    go_ret2
    exact .inr ⟨E.out, _, _, rfl, HR1.out⟩
  · have hp1 := tkB_lt a1
    have A1 := Lib.hid a1
    have HP1 := Lib.hid hp1
    clear hp1
    cases a2 : tkB l (p + 1) 117
    · have E := Lib.hid (show lowQ l p = none by rw [lowQ, if_neg (by simp [a2])])
      have A2 := Lib.hid a2
      clear a1 a2
      go_enter Tryz.func257, Tryz.ntmps257
      go_wp2_with fail
      refine (take_y 92 HR.out HS.out HL.out A1.out).mono ?_
      rintro e w1 ⟨rfl, R1⟩
      have HR1 := Lib.hid R1
      clear R1
      go_wp2_with fail
      refine (take_n 117 HR1.out HS.out HL.out HP1.out A2.out).mono ?_
      rintro e w2 ⟨rfl, R2⟩
      have HR2 := Lib.hid R2
      clear R2
      go_wp2_with fail
      go_ret2
      exact .inr ⟨E.out, _, _, rfl, HR2.out⟩
    · have E := Lib.hid (show lowQ l p = (match Qu.hx 4 0 (l.drop (p + 2)) with | .inr x => if Qu.low x.1 = true then some x.1 else none | .inl _ => none) by rw [lowQ, if_pos ⟨a1, a2⟩])
      have A2 := Lib.hid a2
      have HP2 := Lib.hid (tkB_lt a2)
      clear a1 a2
      go_enter Tryz.func257, Tryz.ntmps257
      go_wp2_with fail
      refine (take_y 92 HR.out HS.out HL.out A1.out).mono ?_
      rintro e w1 ⟨rfl, R1⟩
      have HR1 := Lib.hid R1
      clear R1
      go_wp2_with fail
      refine (take_y 117 HR1.out HS.out HL.out A2.out).mono ?_
      rintro e w2 ⟨rfl, R2⟩
      have HR2 := Lib.hid R2
      clear R2
      go_wp2_with fail
      refine (number4_any HR2.out HS.out HL.out HP2.out).mono ?_
      rintro e w3 (⟨j, e1, rfl, R3⟩ | ⟨n, e1, e2, e3, rfl, R3⟩)
      · have E1 := Lib.hid e1
        have HR3 := Lib.hid R3
        clear e1 R3
        go_wp2_with fail
        go_ret2
        exact .inr ⟨by rw [E.out, E1.out], _, _, rfl, HR3.out⟩
      · have E1 := Lib.hid e1
        have E2 := Lib.hid e2
        have E3 := Lib.hid e3
        have HR3 := Lib.hid R3
        obtain ⟨x, HX⟩ : ∃ x, Hid (x = Qu.low n) := ⟨_, rfl⟩
        clear e1 R3 e2 e3
        go_wp2_with fail
        refine (low_is HX.out _).mono ?_
        rintro e w4 ⟨rfl, rfl⟩
        go_wp2_with fail
        go_ret2
        cases x
        · exact .inr ⟨by rw [E.out, E1.out]; simp [← HX.out], _, _, rfl, HR3.out⟩
        · exact .inl ⟨n, by rw [E.out, E1.out]; simp [← HX.out], E3.out, E2.out, rfl, HR3.out⟩
end
end Go.Proofs.YtggeiajbcehkjaaGreatDoor
