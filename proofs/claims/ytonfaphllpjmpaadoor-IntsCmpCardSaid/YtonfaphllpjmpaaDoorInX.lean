/- The document's times, walked: a text's number times a base, and a digit more. -/
import Derived.Test.YtonfaphllpjmpaaDoorInO
import Derived.Test.YtonfaphllpjmpaaDoorConv
import Derived.Lib.ConvBytes
import Derived.Lib.BufferMore
import Derived.OneCell
namespace Go.Proofs.YtonfaphllpjmpaaDoor
open Go.RowKit

/-- The row of bytes that a conversion made, in the block behind w's: it holds L; nothing that w had has turned. -/
def BR (w wr : World) (L : List UInt8) : Prop := Below w.heap.size w wr ∧ ∃ cs n1 n2, wr.heap[w.heap.size]? = some (.cells cs 5 (n1, n2)) ∧ L.length ≤ n1 ∧ ∀ q, q < L.length → cs[q]? = some (.int .u8 (bt L q))
section
variable {w wr : World} {L : List UInt8}
theorem BR.cell (h : BR w wr L) {q : Nat} (hq : q < L.length) : wr.cell? ⟨w.heap.size, q, none⟩ = some (.int .u8 (bt L q)) ∧ wr.frozen? ⟨w.heap.size, q, none⟩ = false := by
  obtain ⟨_, cs, n1, n2, h1, h2, h3⟩ := h
  simp [World.cell?, World.frozen?, h1, h3 q hq]; omega
theorem BR.lt (h : BR w wr L) : w.heap.size < wr.heap.size := by
  obtain ⟨_, cs, n1, n2, h1, _⟩ := h
  rcases Nat.lt_or_ge w.heap.size wr.heap.size with h | h
  · exact h
  · rw [Array.getElem?_eq_none h] at h1; cases h1
theorem BR.alloc (h : BR w wr L) (o : Obj) : BR w (wr.alloc o) L := by
  have hl := h.lt
  obtain ⟨h0, cs, n1, n2, h1, h2⟩ := h
  exact ⟨h0.alloc h0.size o, cs, n1, n2, by rw [heap_alloc_old _ _ hl]; exact h1, h2⟩
theorem BR.drew (h : BR w wr L) : BR w wr.drew L := ⟨h.1.drew, h.2⟩
theorem BR.byt (h : BR w wr L) : Byt wr wr.heap.size (some ⟨w.heap.size, 0, none⟩) L := fun _ => ⟨_, 0, rfl, h.lt, fun k hk => by rw [Nat.zero_add]; exact (h.cell hk).1⟩
theorem bt_set (L : List UInt8) (i q : Nat) (b : UInt8) (hq : q < L.length) : bt (L.set i b) q = if i = q then (b.toNat : Int) else bt L q := by
  unfold bt
  split
  · rename_i e; subst e; simp [hq]
  · rename_i e; simp [e]
theorem BR.set (h : BR w wr L) {i : Nat} (hi : i < L.length) (b : UInt8) {v : Int} (hv : v = (b.toNat : Int)) : BR w (wr.setCell ⟨w.heap.size, i, none⟩ (.int .u8 v)) (L.set i b) := by
  obtain ⟨h0, cs, n1, n2, h1, h2, h3⟩ := h
  refine ⟨h0.setCell (Nat.le_refl _) _, cs.setIfInBounds i (.int .u8 v), n1, n2, Lib.heap_setCell_same h1 _, by rw [List.length_set]; exact h2, fun q hq => ?_⟩
  rw [List.length_set] at hq
  rw [bt_set L i q b hq]
  have hs : i < cs.size := by
    have := h3 i hi
    rcases Nat.lt_or_ge i cs.size with h | h
    · exact h
    · rw [Array.getElem?_eq_none h] at this; cases this
  rw [Array.getElem?_setIfInBounds]
  split
  · rename_i e; subst e; simp [hv]
  · exact h3 q hq
end
theorem BR.new (w : World) (l : List UInt8) {s : ByteArray} (hs : s = txt l) : BR w (Lib.bytesWorld w 5 s) l := by
  have hz : s.size = l.length := by rw [hs, txt_size]
  refine ⟨⟨rfl, rfl, rfl, by rw [Lib.bytesWorld_size]; omega, fun k hk => Lib.bytesWorld_at_old w 5 s k hk⟩, _, _, _, Lib.bytesWorld_at_new w 5 s, ?_, fun q hq => ?_⟩
  · rw [← hz]; unfold Lib.bytesCells; rw [Array.size_append, Array.size_map]; exact Nat.le_add_right _ _
  · have := Lib.bytesWorld_cell w 5 s q (by rw [hz]; exact hq)
    rw [World.cell?, Lib.bytesWorld_at_new] at this
    simp only [Option.isSome_none, Bool.false_eq_true, if_false] at this
    have e : s.data.toList = l := by rw [hs]; simp [txt]
    rw [this, e]; rfl
namespace In
/-- What lies in the row when all from j on is done. -/
def row (b d : Nat) (l : List UInt8) (j : Nat) : List UInt8 := l.take j ++ (tm b d (l.drop j)).1
theorem row_all (b d : Nat) (l : List UInt8) : row b d l l.length = l := by simp [row, tm]
theorem row_len (b d : Nat) (l : List UInt8) {j : Nat} (h : j ≤ l.length) : (row b d l j).length = l.length := by
  rw [row, List.length_append, tm_len]; simp; omega
theorem row_at (b d : Nat) {l : List UInt8} {i : Nat} (h : i < l.length) : bt (row b d l (i + 1)) i = bt l i := by
  have e : (row b d l (i + 1))[i]? = l[i]? := by
    unfold row
    rw [List.getElem?_append_left (by simp; omega)]
    simp
  unfold bt
  rw [List.getD_eq_getElem?_getD, List.getD_eq_getElem?_getD, e]
theorem row_set (b d : Nat) {l : List UInt8} {i : Nat} (h : i < l.length) : (row b d l (i + 1)).set i (UInt8.ofNat (48 + ((tm b d (l.drop (i + 1))).2 + b * d10 l[i]) % 10)) = row b d l i ∧ (tm b d (l.drop i)).2 = ((tm b d (l.drop (i + 1))).2 + b * d10 l[i]) / 10 := by
  have e : l.drop i = l[i] :: l.drop (i + 1) := List.drop_eq_getElem_cons h
  constructor
  · unfold row
    rw [e]
    simp only [tm]
    rw [List.take_succ_eq_append_getElem h, List.append_assoc, List.set_append, if_neg (by simp; omega)]
    congr 1
    rw [show i - (l.take i).length = 0 by simp; omega]
    rfl
  · rw [e]; rfl
theorem hd_step {v : Nat} (h : v ≠ 0) : hd v = hd (v / 10) ++ [UInt8.ofNat (48 + v % 10)] := by
  unfold hd
  rw [if_neg h]
  by_cases h2 : 10 ≤ v
  · rw [if_neg (by omega), dN_ge (by omega) h2, ch_ten (Nat.mod_lt _ (by omega))]
  · rw [if_pos (by omega), dN_lt (by omega), ch_ten (by omega), Nat.mod_eq_of_lt (by omega)]; rfl
theorem strip_on {r : List UInt8} (h : r ≠ []) : strip (48 :: r) = strip r := by
  match r, h with
  | d :: r, _ => rw [strip, if_pos rfl]
theorem strip_off {l : List UInt8} (h : ¬ (1 < l.length ∧ l.head? = some 48)) : strip l = l := by
  match l, h with
  | [], _ => rfl
  | [_], _ => rfl
  | c :: d :: r, h =>
    rw [strip, if_neg]
    rintro rfl
    exact h ⟨by simp, rfl⟩
theorem strip_len (l : List UInt8) : (strip l).length ≤ l.length := by
  match l with
  | [] => simp [strip]
  | [_] => simp [strip]
  | c :: d :: r =>
    rw [strip]
    split
    · have := strip_len (d :: r); simp at this ⊢; omega
    · exact Nat.le_refl _
end In
theorem cells_one' {w : World} (c : UInt8) (x : Int) (hx : x = (c.toNat : Int)) : Byt (w.alloc (.cells #[.int .u8 x] 5)) (w.alloc (.cells #[.int .u8 x] 5)).heap.size (some ⟨w.heap.size, 0, none⟩) [c] := by
  subst hx
  refine fun _ => ⟨w.heap.size, 0, rfl, by simp, fun k hk => ?_⟩
  obtain rfl : k = 0 := by simpa using hk
  rw [World.cell?_alloc_at _ _ _ _ rfl]
  simp [bt]
def sl (v : Value) : Nat := match v with | .string s => s.size | _ => 0
set_option maxHeartbeats 8000000 in
set_option maxRecDepth 100000 in
theorem times_any {n : Nat} {s : ByteArray} (b d : Nat) (bI dI : Int) (w : World) (hs : s = txt (In.dN 10 n)) (hl : (In.dN 10 n).length ≤ 1000000) (hbI : bI = b) (hdI : dI = d) (hb : b ≤ 16) (hd : d ≤ 15) :
    Calls Tryd.prog 25 #[.string s, .int .i64 bI, .int .i64 dI] w fun e w' => e = .returned (.string (txt (In.dN 10 (n * b + d)))) ∧ Below w.heap.size w w' := by
  obtain ⟨l, HLL⟩ : ∃ l, Hid (l = In.dN 10 n) := ⟨_, rfl⟩
  have HS := Lib.hid (show s = txt l by rw [HLL.out]; exact hs)
  have HZ := Lib.hid (show s.size = l.length by rw [HS.out, txt_size])
  have HL := Lib.hid (show l.length ≤ 1000000 by rw [HLL.out]; exact hl)
  have HD := Lib.hid (show In.dec l by rw [HLL.out]; exact In.dec_dN n)
  have HB := Lib.hid hbI
  have HB16 := Lib.hid hb
  have HD15 := Lib.hid hd
  have hsz : s.size ≤ 1000000 := by rw [HZ.out]; exact HL.out
  have hb0 : 0 ≤ bI := by omega
  have hb1 : bI ≤ 16 := by omega
  have R0 := BR.new w l HS.out
  have hcv := Lib.run_convert_string_bytes (P := Tryd.prog) w 9 50 5 s Tryd.underlying9 Tryd.underlying50 Tryd.underlying5
  have HDI := Lib.hid hdI
  clear hs hl hbI hdI hb hd
  go_enter Tryd.func25, Tryd.ntmps25
  go_wp2_with fail
  generalize grownCap w s.size 0 5 = cp at *
  go_loopw [2, 8] (fun v i wr => ∃ j k : Nat, j ≤ s.size ∧ i = .int .i64 ((j : Int) - 1) ∧ v = .int .i64 k ∧ k = (In.tm b d (l.drop j)).2 ∧ BR w wr (In.row b d l j)) (fun _ i _ => (intOf i + 1).toNat)
  case atStart => exact ⟨s.size, d, Nat.le_refl _, rfl, by rw [HDI.out], by rw [HZ.out, List.drop_length]; rfl, by rw [HZ.out, In.row_all]; exact R0⟩
  case round =>
    obtain ⟨j, k, hj, rfl, rfl, hk, R⟩ := hrel
    clear R0
    have HR := Lib.hid R
    have HK := Lib.hid hk
    have hk15 : k ≤ 15 := by
      rw [hk]
      exact In.tm_carry HB16.out HD15.out _ (fun c hc => HD.out c (List.mem_of_mem_drop hc))
    clear R hk
    by_cases h0 : j = 0
    · subst h0
      have HR2 : Hid (BR w wr (In.tm b d l).1) := Lib.hid (by have := HR.out; unfold In.row at this; simpa using this)
      have HK2 : Hid (k = (In.tm b d l).2) := Lib.hid (by have := HK.out; simpa using this)
      clear HR HK
      have hneg : decide ((0 : Int) ≤ -1) = false := by decide
      go_wp2_with fail
      go_loopw [2, 9] (fun v h wx => ∃ (c : Nat) (S : ByteArray) (H : List UInt8), c ≤ 15 ∧ v = .int .i64 c ∧ h = .string S ∧ S = txt H ∧ In.hd k = In.hd c ++ H ∧ BR w wx (In.tm b d l).1) (fun v _ _ => (intOf v).toNat)
      case atStart => exact ⟨k, _, [], hk15, rfl, rfl, rfl, by rw [List.append_nil], HR2.out⟩
      case round =>
        obtain ⟨c, S, H, hc, rfl, rfl, hS, hH, R3⟩ := hrel
        have HR3 := Lib.hid R3
        have HSS := Lib.hid hS
        have HH := Lib.hid hH
        have hHl : H.length ≤ 16 := by
          have h1 := congrArg List.length hH
          have h2 : (In.hd k).length ≤ 16 := by
            have h3 : ∀ k, k ≤ 15 → (In.hd k).length ≤ 16 := by decide +kernel
            exact h3 k hk15
          rw [List.length_append] at h1; omega
        have hSz : S.size ≤ 16 := by rw [hS, txt_size]; exact hHl
        clear R3 hS hH HR2
        by_cases hc0 : c = 0
        · subst hc0
          have HKH := Lib.hid (show In.hd k = H by rw [HH.out]; rfl)
          have hlen : s.size = (In.tm b d l).1.length := by rw [In.tm_len, HZ.out]
          have hcv2 := conv_bytes (w := wr) s.size cp hlen HR3.out.byt
          clear hlen
          have HBl := Lib.hid HR3.out.1
          obtain ⟨L0, HL0⟩ : ∃ L0, Hid (L0 = H ++ (In.tm b d l).1) := ⟨_, rfl⟩
          obtain ⟨T0, hT0⟩ : ∃ T0, S ++ txt (In.tm b d l).1 = T0 := ⟨_, rfl⟩
          have HT0 := Lib.hid (show T0 = txt L0 by rw [← hT0, HSS.out, txt_app, HL0.out])
          have HFin := Lib.hid (show In.strip L0 = In.dN 10 (n * b + d) by rw [HL0.out, ← HKH.out, HK2.out, HLL.out]; exact In.times_dN b d n)
          have HLn := Lib.hid (show L0 ≠ [] ∧ L0.length ≤ 1000016 by
            rw [HL0.out]
            have h1 : (In.tm b d l).1.length = l.length := In.tm_len _ _ _
            have h2 : 1 ≤ l.length := by rw [HLL.out]; exact In.dN_len_pos n
            refine ⟨fun e => ?_, ?_⟩
            · have := (List.append_eq_nil_iff.1 e).2
              rw [this] at h1; simp at h1; omega
            · rw [List.length_append, h1]; have := HL.out; omega)
          have hcs : (txt (In.tm b d l).1).size ≤ 1000000 := by rw [txt_size, In.tm_len]; exact HL.out
          clear HR3
          go_wp2_with fail
          try rw [hT0]
          go_loop [0] (fun v => ∃ (T : ByteArray) (M : List UInt8), v = .string T ∧ T = txt M ∧ M ≠ [] ∧ M.length ≤ 1000016 ∧ In.strip M = In.strip L0) (fun v => sl v)
          case atStart => exact ⟨T0, L0, rfl, HT0.out, HLn.out.1, HLn.out.2, rfl⟩
          case round =>
            obtain ⟨T, M, rfl, hT, hM, hMl, hst⟩ := hrel
            have HT := Lib.hid hT
            have HM := Lib.hid hM
            have HST := Lib.hid hst
            have HTZ := Lib.hid (show T.size = M.length by rw [hT, txt_size])
            have hTs : T.size ≤ 1000016 := by rw [HTZ.out]; exact hMl
            have hx := txt_at hT (k := 0)
            obtain ⟨y, HY⟩ : ∃ y, Hid (y = bt M 0) := ⟨_, rfl⟩
            rw [← HY.out] at hx
            clear hT hM hst hMl
            by_cases h1 : 1 < T.size
            · have hgt : (1 : Int) < T.size := by omega
              have hz0 : 0 < T.size := by omega
              by_cases hy : y = 48
              · obtain ⟨U, HU⟩ : ∃ U, T.extract 1 T.size = U := ⟨_, rfl⟩
                have HUU := Lib.hid (show U = txt (M.drop 1) by rw [← HU, HT.out, txt_cut, txt_size, List.take_length])
                have HMM := Lib.hid (show M = 48 :: M.drop 1 by
                  obtain ⟨m, r, e⟩ := List.exists_cons_of_ne_nil HM.out
                  rw [e] at HY ⊢
                  have : m = 48 := UInt8.toNat_inj.1 (by have := HY.out; simp [bt] at this; simp; omega)
                  rw [this]; rfl)
                have HN := Lib.hid (show M.drop 1 ≠ [] by
                  intro e
                  have := congrArg List.length e
                  have := HTZ.out
                  simp at *; omega)
                have HUZ := Lib.hid (show U.size = T.size - 1 by rw [HUU.out, txt_size, HTZ.out]; simp)
                subst hy
                go_wp2_with fail
                go_round
                case rel => exact ⟨U, M.drop 1, by rw [← HU], HUU.out, HN.out, by have := HTZ.out; simp; omega, by rw [← HST.out, HMM.out, List.drop_succ_cons, List.drop_zero]; exact (In.strip_on HN.out).symm⟩
                case measure => show U.size < T.size; rw [HUZ.out]; omega
              · have hy' : (y == 48) = false := by simp [hy]
                have HE := Lib.hid (show In.strip M = M from In.strip_off (fun h => hy (by
                  rw [HY.out]
                  obtain ⟨m, r, e⟩ := List.exists_cons_of_ne_nil HM.out
                  rw [e] at h ⊢
                  have := h.2
                  simp at this
                  rw [this]; rfl)))
                go_wp2_with fail
                go_ret
                exact ⟨by rw [HT.out, ← HE.out, HST.out, HFin.out]; rfl, HBl.out⟩
            · have hgt : ¬ (1 : Int) < T.size := by omega
              have HE := Lib.hid (show In.strip M = M from In.strip_off (fun h => by have := HTZ.out; omega))
              go_wp2_with fail
              go_ret
              exact ⟨by rw [HT.out, ← HE.out, HST.out, HFin.out]; rfl, HBl.out⟩
        · have hcp : (0 : Int) < c := by omega
          obtain ⟨z, HZ1⟩ : ∃ z : Int, Hid (z = ((c % 10 : Nat) : Int)) := ⟨_, rfl⟩
          obtain ⟨c2, HC2⟩ : ∃ c2 : Nat, Hid (c2 = c / 10) := ⟨_, rfl⟩
          have t1 : (c : Int).tmod 10 = z := by rw [HZ1.out, Int.tmod_eq_emod_of_nonneg (by omega)]; omega
          have t2 : (c : Int).tdiv 10 = (c2 : Int) := by rw [HC2.out, Int.tdiv_eq_ediv_of_nonneg (by omega)]; omega
          have c2b : (c2 : Int) ≤ 15 := by have := HC2.out; omega
          have z0 : 0 ≤ z := by have := HZ1.out; omega
          have z9 : z ≤ 9 := by have := HZ1.out; omega
          have t4 : wrap64 (48 + z) = 48 + z := by unfold wrap64; omega
          have t5 : (48 + z) % 256 = 48 + z := by omega
          have hch : 48 + z = ((UInt8.ofNat (48 + c % 10)).toNat : Int) := by rw [HZ1.out, UInt8.toNat_ofNat_of_lt' (by simp [UInt8.size]; omega)]; omega
          have hcv2 := conv_bytes (w := wr.alloc (.cells #[.int .u8 (48 + z)] 5)) 1 1 rfl (cells_one' (UInt8.ofNat (48 + c % 10)) _ hch)
          obtain ⟨S1, HS1⟩ : ∃ S1, Hid (S1 = txt [UInt8.ofNat (48 + c % 10)]) := ⟨_, rfl⟩
          rw [← HS1.out] at hcv2
          have HHC := Lib.hid (In.hd_step hc0)
          have h1s : S1.size = 1 := by rw [HS1.out, txt_size]; rfl
          have HRA := Lib.hid (HR3.out.alloc (.cells #[.int .u8 (48 + z)] 5))
          clear hch hc0
          go_wp2_with fail
          go_roundw
          case rel => exact ⟨c2, _, UInt8.ofNat (48 + c % 10) :: H, by have := HC2.out; omega, rfl, rfl, by rw [HS1.out, HSS.out, txt_app]; rfl, by rw [HH.out, HHC.out, List.append_assoc, HC2.out]; rfl, HRA.out⟩
          case measure => have := HC2.out; simp [intOf]; omega
    · obtain ⟨i, rfl⟩ : ∃ i, j = i + 1 := ⟨j - 1, by omega⟩
      have hil : i < l.length := by rw [← HZ.out]; omega
      have hrl : i < (In.row b d l (i + 1)).length := by rw [In.row_len b d l hil]; exact hil
      obtain ⟨cA, cF⟩ := HR.out.cell hrl
      obtain ⟨y, HY⟩ : ∃ y, Hid (y = bt l i) := ⟨_, rfl⟩
      rw [In.row_at b d hil, ← HY.out] at cA
      have HLI := Lib.hid (show y = ((l[i]'hil).toNat : Int) by rw [HY.out]; simp [bt, hil])
      have hdg := HD.out _ (List.getElem_mem hil)
      have hy1 : 48 ≤ y := by rw [HLI.out]; omega
      have hy2 : y ≤ 57 := by rw [HLI.out]; omega
      obtain ⟨x, HX⟩ : ∃ x : Nat, Hid (x = k + b * In.d10 (l[i]'hil)) := ⟨_, rfl⟩
      have hd9 : In.d10 (l[i]'hil) ≤ 9 := by unfold In.d10; omega
      have hbx : b * In.d10 (l[i]'hil) ≤ 16 * 9 := Nat.mul_le_mul HB16.out hd9
      have hx1 : x ≤ 159 := by rw [HX.out]; omega
      have e1 : IntKind.u8.wrap (y - 48) = y - 48 := sub8 hy1 (by omega) (by omega)
      have e0 : y - 48 = (In.d10 (l[i]'hil) : Int) := by rw [HLI.out]; unfold In.d10; omega
      have e2 : bI * (y - 48) = ((b * In.d10 (l[i]'hil) : Nat) : Int) := by rw [e0, HB.out]; simp
      have e3 : (k : Int) + bI * (y - 48) = x := by rw [e2, HX.out]; simp
      have e4 : IntKind.i64.wrap (bI * (y - 48)) = bI * (y - 48) := IntWalk.i64_in _ (by rw [e2]; omega)
      have t1 : (x : Int).tmod 10 = ((x % 10 : Nat) : Int) := by rw [Int.tmod_eq_emod_of_nonneg (by omega)]; omega
      have t2 : (x : Int).tdiv 10 = ((x / 10 : Nat) : Int) := by rw [Int.tdiv_eq_ediv_of_nonneg (by omega)]; omega
      have t3 : IntKind.u8.wrap (48 + ((x % 10 : Nat) : Int)) = 48 + ((x % 10 : Nat) : Int) := by rw [IntKind.wrap_u8']; omega
      have hch : 48 + ((x % 10 : Nat) : Int) = ((UInt8.ofNat (48 + x % 10)).toNat : Int) := by rw [UInt8.toNat_ofNat_of_lt' (by simp [UInt8.size]; omega)]; omega
      have HRS := Lib.hid (In.row_set b d hil)
      have HRSET := Lib.hid (HR.out.set hrl (UInt8.ofNat (48 + x % 10)) hch)
      have hii : ((i + 1 : Nat) : Int) - 1 = i := by omega
      have hge : (0 : Int) ≤ i := by omega
      rw [hii]
      have his : i < s.size := by rw [HZ.out]; exact hil
      clear hdg hd9 hbx e2 e0 h0
      go_wp2_with fail
      go_roundw
      case rel => exact ⟨i, x / 10, by omega, rfl, rfl, by rw [HRS.out.2, HX.out, HK.out], by have := HRSET.out; rw [HX.out, HK.out, HRS.out.1] at this; rw [HX.out, HK.out]; exact this⟩
      case measure => simp [intOf]
end Go.Proofs.YtonfaphllpjmpaaDoor
