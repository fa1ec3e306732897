/- The law QuotesEscapes, walked. -/
import Derived.Test.YtilokhbhkbikiaaDoorHex
import Derived.Deep.LoopGhost
import Derived.BigFrame
namespace Go.Proofs.YtilokhbhkbikiaaDoor
open Go.RowKit

theorem below_tr2 {w w1 w2 : World} (h : Below w.heap.size w w1) (k : Below w1.heap.size w1 w2) : Below w.heap.size w w2 := h.trans (k.mono h.size)
theorem flB_half {r : Qu.Res} {a : Nat} {x : Int} (h : r = .bad true a) (hx : x = (a : Int)) : true = flB r 6 x := by rw [h, hx, flB]; simp
theorem own_keep {w w' : World} {base n z : Nat} {e : TypeId} {v : Value} {xs : List Value} (h : w.ownsRow base e z v n xs) (hb : Below w.heap.size w w') : w'.ownsRow base e z v n xs :=
  h.kept (row := none) ⟨hb.os, hb.tape, hb.output, hb.size, fun k hk _ => hb.block k hk⟩ (by
    rcases h : v.ownBlock with _ | g
    · exact .inl rfl
    · exact .inr (by simp))
/-- append onto a row of one's own, behind a guard that says yes. -/
theorem wpList_append_g {P : Program} (w : World) {ops : Array Oper} {rest : List Oper} {o : Oper} {a : Act} {Q : Exit → Act → World → Prop} (hw : Region.wanted o (yielded ops a.tmps) = true) (s x : Operand) (t : TypeId)
    (ho : o.op = .call { callee := .builtin .append, args := #[s, x], argTypes := #[t, t] })
    (base : Nat) (e : TypeId) (i : TypeInfo) (z : Value) (size bytes : Nat) (ht : P.underlying t = some (.slice e)) (hi : P.info? e = some i) (hz : i.zero = some z)
    (hsize : i.size = size) (hby : i.bytes = bytes) (hzs : z.cells.size = size) (hsz : 0 < size)
    (v : Value) (n : Nat) (xs : List Value) (hs : a.eval s = v) (hown : w.ownsRow base e size v n xs)
    (ad : Addr) (m c : Nat) (news : List Value) (hx : a.eval x = .slice (some ad) m c) (hl : news.length = m * size) (hnews : ∀ j u, news[j]? = some u → w.cell? (ad.add j) = some u) (h1 : ∀ u ∈ news, u.oneCell' = true)
    (h63 : n + m ≤ maxLen) (hbytes : (n + m) * bytes ≤ 140737488355328) (hbase : base ≤ w.heap.size)
    (h : ∀ v' w', w'.ownsRow base e size v' (n + m) (xs ++ news) → w.grownBy w' v.ownBlock → (v' = .slice none 0 0 ↔ v = .slice none 0 0 ∧ m = 0) → wpList P ops Q rest (a.put o.dst v') w') : wpList P ops Q (o :: rest) a w :=
  BigFrame.wpList_want hw fun _ hK => wp_append_own w s x t ho base e i z size bytes ht hi hz hsize hby hzs hsz v n xs hs hown ad m c news hx hl hnews h1 h63 hbytes hbase fun v' w' h2 h3 h4 => hK _ _ (h v' w' h2 h3 h4)
theorem below_app {w w5 w6 : World} {v : Value} {n z : Nat} {e : TypeId} {xs : List Value} {o : Obj} (h : Below w.heap.size w w5) (hown : w5.ownsRow w.heap.size e z v n xs) (hg : (w5.alloc o).grownBy w6 v.ownBlock) : Below w.heap.size w w6 := by
  refine (h.alloc h.size o).grown hg (by have := h.size; simp; omega) (fun g e => ?_)
  rcases hown.2 with ⟨rfl, _⟩ | ⟨g', cap, cur, rfl, hb', _⟩
  · cases e
  · obtain rfl : g' = g := by simpa [Value.ownBlock] using e
    exact hb'
/-- A half and the low one behind it: a pair just if the half is a high one. -/
theorem both_is (u : Bool) (l : List Int) {k : Nat} (hk : k ≤ 200) : decide (55296 + (k : Int) * 7 < 56320) = isB (Qu.rdq (34 :: (Qu.eBody u l ++ (Qu.hexs u (55296 + k * 7) ++ (Qu.hexs u (56320 + k) ++ [34]))))) (puts (Qu.runesOf l ++ [65536 + 1024 * (55296 + (k : Int) * 7 - 55296) + k])) := by
  have hlo : Qu.low (56320 + k) = true := by simp [Qu.low]; omega
  by_cases h : 55296 + (k : Int) * 7 < 56320
  · have hhi : Qu.high (55296 + k * 7) = true := by simp [Qu.high]; omega
    have hp := Qu.pair_bd hhi hlo
    have e : (65536 + 1024 * (55296 + (k : Int) * 7 - 55296) + k) = ((Qu.pair (55296 + k * 7) (56320 + k) : Nat) : Int) := by unfold Qu.pair; omega
    have hm := puts_more l (n := Qu.pair (55296 + k * 7) (56320 + k)) hp.2 (by simp [Qu.high]; omega) (by simp [Qu.low]; omega)
    have hb := Qu.both_ok u l hhi hlo
    rw [e, hm]
    generalize Qu.pt (Qu.pair (55296 + k * 7) (56320 + k)) = y at hb ⊢
    rw [hb]
    simp [isB, h]
  · have hl2 : Qu.low (55296 + k * 7) = true := by simp [Qu.low]; omega
    rw [Qu.half_low u l hl2]
    simp [isB, h]
/-- The slice of numbers that comes in. -/
def ArgN (w : World) (A : Option Addr) (n c : Nat) (l : List Int) : Prop := n = l.length ∧ n ≤ c ∧ c ≤ maxLen ∧ Num w w.heap.size A l ∧ (A = none → c = 0)
theorem runesOf_take {l : List Int} {k : Nat} (h : k < l.length) : Qu.runesOf (l.take (k + 1)) = Qu.runesOf (l.take k) ++ (if Qu.isR l[k] = true then [l[k]] else []) := by
  rw [List.take_succ_eq_append_getElem h, Qu.runesOf, List.filter_append]
  congr 1
  by_cases hr : Qu.isR l[k] = true
  · simp [hr]
  · simp [hr]
theorem eBody_take {l : List Int} {k : Nat} (u : Bool) (h : k < l.length) : Qu.eBody u (l.take (k + 1)) = Qu.eBody u (l.take k) ++ (if Qu.isR l[k] = true then Qu.eE u l[k] else []) := by
  rw [Qu.eBody, runesOf_take h, List.flatMap_append]
  congr 1
  by_cases hr : Qu.isR l[k] = true
  · simp [hr]
  · simp [hr]
theorem eBody_len (u : Bool) (l : List Int) : (Qu.eBody u l).length ≤ 12 * l.length := by
  have : ∀ r : List Int, (r.flatMap (Qu.eE u)).length ≤ 12 * r.length := fun r => by
    induction r with
    | nil => simp
    | cons x r ih =>
      have : (Qu.eE u x).length ≤ 12 := by unfold Qu.eE; split <;> simp [Qu.hexs]
      rw [List.flatMap_cons, List.length_append, List.length_cons]; omega
  have h2 := this (Qu.runesOf l)
  have h3 : (Qu.runesOf l).length ≤ l.length := List.length_filter_le _ _
  unfold Qu.eBody; omega
/-- What holds at each round's head. -/
def EsRel (w : World) (l : List Int) (u : Bool) (k : Nat) (S : ByteArray) (v : Value) (wr : World) : Prop :=
  S = txt (Qu.eBody u (l.take k)) ∧ wr.ownsRow w.heap.size 3 1 v (Qu.runesOf (l.take k)).length (ints (Qu.runesOf (l.take k))) ∧ Below w.heap.size w wr
theorem EsRel.skip {w : World} {l : List Int} {u : Bool} {k : Nat} {S : ByteArray} {v : Value} {wr : World} (h : EsRel w l u k S v wr) (hk : k < l.length) (hr : Qu.isR l[k] = false) : EsRel w l u (k + 1) S v wr := by
  obtain ⟨h1, h2, h3⟩ := h
  refine ⟨?_, ?_, h3⟩
  · rw [eBody_take u hk, hr]; simpa using h1
  · rw [runesOf_take hk, hr]; simpa using h2
theorem EsRel.next {w : World} {l : List Int} {u : Bool} {k : Nat} {S U : ByteArray} {v v2 : Value} {wr w2 : World} {o : Obj} (h : EsRel w l u k S v wr) (hk : k < l.length) (hr : Qu.isR l[k] = true) (hU : U = txt (Qu.eE u l[k]))
    (h1 : w2.ownsRow w.heap.size 3 1 v2 ((Qu.runesOf (l.take k)).length + 1) (ints (Qu.runesOf (l.take k)) ++ [.int .i64 l[k]])) (h2 : (wr.alloc o).grownBy w2 v.ownBlock) : EsRel w l u (k + 1) (S ++ U) v2 w2 := by
  obtain ⟨a1, a2, a3⟩ := h
  refine ⟨?_, ?_, ?_⟩
  · rw [eBody_take u hk, if_pos hr, a1, hU, txt_app]
  · rw [runesOf_take hk, if_pos hr, List.length_append, show ints (Qu.runesOf (l.take k) ++ [l[k]]) = ints (Qu.runesOf (l.take k)) ++ [.int .i64 l[k]] by simp [ints]]
    exact h1
  · refine (a3.alloc a3.size o).grown h2 (by have := a3.size; simp; omega) (fun g e => ?_)
    rcases a2.2 with ⟨rfl, _⟩ | ⟨g', cap, cur, rfl, hb', _⟩
    · cases e
    · obtain rfl : g' = g := by simpa [Value.ownBlock] using e
      exact hb'
theorem eE_small {u : Bool} {x : Int} (h : x < 65536) : Qu.eE u x = Qu.hexs u x.toNat := by rw [Qu.eE, if_pos h]
theorem eE_big {u : Bool} {x : Int} (h : ¬ x < 65536) : Qu.eE u x = Qu.hexs u (55296 + (x - 65536) / 1024).toNat ++ Qu.hexs u (56320 + (x - 65536) % 1024).toNat := by rw [Qu.eE, if_neg h]
set_option maxHeartbeats 8000000 in
set_option maxRecDepth 100000 in
theorem lawesc_any {l : List Int} {A : Option Addr} {n c : Nat} (u : Bool) (w : World) (ha : ArgN w A n c l) (hT : Tab w) : Calls Tryd.prog 6 #[.slice A n c, .bool u] w fun e w' => e = .returned (.bool true) ∧ Below w.heap.size w w' := by
  have HL := Lib.hid lives_any
  have HT := Lib.hid hT
  clear hT
  by_cases h : n ≤ 200
  · obtain ⟨i0, hi, hz0, hz1, hz2⟩ := info_parts (show (Tryd.prog.info? 3).map (fun i => (i.zero, i.size, i.bytes)) = some (some (.int .i64 0), 1, 8) by kernel_rfl)
    obtain ⟨hn, hnc, hcm, hA, hnone⟩ := ha
    have HN := Lib.hid hn
    have HA := Lib.hid hA
    have G0 := Lib.hid (show decide ((200 : Int) < (n : Int)) = false from decide_eq_false (by omega))
    have R0 : EsRel w l u 0 ⟨#[]⟩ (.slice none 0 0) w := ⟨rfl, World.ownsRow_nil _ _ _ _, Below.refl _ _⟩
    clear hn hnc hcm hA hnone
    go_enter Tryd.func6, Tryd.ntmps6
    go_wp2_with fail
    rw [G0.out]
    go_loopw [5, 6, 7] (fun b v i wr => ∃ (k : Nat) (S : ByteArray), k ≤ n ∧ i = .int .i64 k ∧ b = .string S ∧ EsRel w l u k S v wr) (fun _ _ i _ => n - (intOf i).toNat)
    case atStart => exact ⟨0, _, Nat.zero_le _, rfl, rfl, R0⟩
    case round =>
      obtain ⟨k, S, hk, rfl, rfl, R⟩ := hrel
      clear R0
      have HR := Lib.hid R
      have HS := Lib.hid R.1
      have hbs : w.heap.size ≤ wr.heap.size := R.2.2.size
      have HBR := Lib.hid R.2.2
      have HOw := Lib.hid R.2.1
      have hss : S.size ≤ 2400 := by
        rw [R.1, txt_size]
        have h1 := eBody_len u (l.take k)
        have h2 : (l.take k).length ≤ k := by simp; omega
        omega
      have hrl : (Qu.runesOf (l.take k)).length ≤ 200 := by
        have h1 : (Qu.runesOf (l.take k)).length ≤ (l.take k).length := List.length_filter_le _ _
        have h2 : (l.take k).length ≤ k := by simp; omega
        omega
      clear R
      by_cases hlt : k < n
      · have hkl : k < l.length := by rw [← HN.out]; exact hlt
        obtain ⟨b, off, rfl, hbB, hc⟩ := HA.out.at_ hkl
        obtain ⟨x, HX⟩ : ∃ x, Hid (x = it l k) := ⟨_, rfl⟩
        have hck : wr.cell? ⟨b, off + k, none⟩ = some (.int .i64 x) := by rw [HX.out]; exact (HBR.out.cell (p := ⟨b, off + k, none⟩) hbB).trans (hc k hkl)
        have HE := Lib.hid (show l[k]'hkl = x by rw [HX.out]; simp [it, hkl])
        clear hc
        by_cases c1 : x < 0
        · have N := Lib.hid (HR.out.skip hkl (by rw [HE.out]; simp [Qu.isR]; omega))
          go_wp2_with fail
          go_roundw
          case rel => exact ⟨k + 1, _, by omega, by go_num, rfl, N.out⟩
          case measure => simp [intOf]; omega
        by_cases c2 : 1114111 < x
        · have N := Lib.hid (HR.out.skip hkl (by rw [HE.out]; simp [Qu.isR]; omega))
          go_wp2_with fail
          go_roundw
          case rel => exact ⟨k + 1, _, by omega, by go_num, rfl, N.out⟩
          case measure => simp [intOf]; omega
        by_cases c3 : 55296 ≤ x ∧ x ≤ 57343
        · obtain ⟨c4, c5⟩ := c3
          have N := Lib.hid (HR.out.skip hkl (by rw [HE.out]; simp [Qu.isR]; omega))
          go_wp2_with fail
          go_roundw
          case rel => exact ⟨k + 1, _, by omega, by go_num, rfl, N.out⟩
          case measure => simp [intOf]; omega
        have HRX := Lib.hid (show Qu.isR (l[k]'hkl) = true by rw [HE.out]; simp [Qu.isR]; omega)
        by_cases c65 : x < 65536
        · obtain ⟨U, HU⟩ : ∃ U, Hid (U = txt (Qu.hexs u x.toNat)) := ⟨_, rfl⟩
          have hu6 : U.size = 6 := by rw [HU.out]; rfl
          have HEE := Lib.hid (show U = txt (Qu.eE u (l[k]'hkl)) by rw [HE.out, eE_small c65]; exact HU.out)
          have HXN := Lib.hid (show x = ((x.toNat : Nat) : Int) by omega)
          have HXL := Lib.hid (show x.toNat < 65536 by omega)
          rcases (show x < 55296 ∨ 57343 < x by omega) with c6 | c6
          · go_wp2_with (first
              | (at_builtin; refine wpList_append_own _ rfl (.tmp 41) (.tmp 43) 32 rfl w.heap.size 3 i0 (.int .i64 0) 1 8 Tryd.underlying32 hi hz0 hz1 hz2 rfl (by decide) _ (Qu.runesOf (l.take k)).length (ints (Qu.runesOf (l.take k))) rfl (HOw.out.alloc _) ⟨wr.heap.size, 0, none⟩ 1 1 [.int .i64 x] rfl rfl (cells_new _ _ rfl) (ints_oneCell .i64 [x]) (by unfold maxLen; omega) (by omega) (by simp; omega) ?_; intro v2 w2 hown2 hg2 _)
              | (go_at_call 14; refine (hex_is u HXN.out HXL.out HU.out _).mono ?_; rintro e w' ⟨rfl, rfl⟩))
            have N := Lib.hid (HR.out.next hkl HRX.out HEE.out (by rw [HE.out]; exact hown2) hg2)
            clear hown2 hg2
            go_roundw
            case rel => exact ⟨k + 1, _, by omega, by go_num, rfl, N.out⟩
            case measure => simp [intOf]; omega
          · go_wp2_with (first
              | (at_builtin; refine wpList_append_own _ rfl (.tmp 41) (.tmp 43) 32 rfl w.heap.size 3 i0 (.int .i64 0) 1 8 Tryd.underlying32 hi hz0 hz1 hz2 rfl (by decide) _ (Qu.runesOf (l.take k)).length (ints (Qu.runesOf (l.take k))) rfl (HOw.out.alloc _) ⟨wr.heap.size, 0, none⟩ 1 1 [.int .i64 x] rfl rfl (cells_new _ _ rfl) (ints_oneCell .i64 [x]) (by unfold maxLen; omega) (by omega) (by simp; omega) ?_; intro v2 w2 hown2 hg2 _)
              | (go_at_call 14; refine (hex_is u HXN.out HXL.out HU.out _).mono ?_; rintro e w' ⟨rfl, rfl⟩))
            have N := Lib.hid (HR.out.next hkl HRX.out HEE.out (by rw [HE.out]; exact hown2) hg2)
            clear hown2 hg2
            go_roundw
            case rel => exact ⟨k + 1, _, by omega, by go_num, rfl, N.out⟩
            case measure => simp [intOf]; omega
        · obtain ⟨U, HU⟩ : ∃ U, Hid (U = txt (Qu.hexs u (55296 + (x - 65536) / 1024).toNat)) := ⟨_, rfl⟩
          obtain ⟨V, HV⟩ : ∃ V, Hid (V = txt (Qu.hexs u (56320 + (x - 65536) % 1024).toNat)) := ⟨_, rfl⟩
          have hu6 : U.size = 6 := by rw [HU.out]; rfl
          have hv6 : V.size = 6 := by rw [HV.out]; rfl
          have HEE := Lib.hid (show U ++ V = txt (Qu.eE u (l[k]'hkl)) by rw [HE.out, eE_big c65, HU.out, HV.out, txt_app])
          have HXN := Lib.hid (show 55296 + (x - 65536) / 1024 = (((55296 + (x - 65536) / 1024).toNat : Nat) : Int) by omega)
          have HXL := Lib.hid (show (55296 + (x - 65536) / 1024).toNat < 65536 by omega)
          have HYN := Lib.hid (show 56320 + (x - 65536) % 1024 = (((56320 + (x - 65536) % 1024).toNat : Nat) : Int) by omega)
          have HYL := Lib.hid (show (56320 + (x - 65536) % 1024).toNat < 65536 by omega)
          have c6 : 57343 < x := by omega
          have c7 : 55296 ≤ x := by omega
          go_wp2_with (at_builtin; refine wpList_append_own _ rfl (.tmp 41) (.tmp 43) 32 rfl w.heap.size 3 i0 (.int .i64 0) 1 8 Tryd.underlying32 hi hz0 hz1 hz2 rfl (by decide) _ (Qu.runesOf (l.take k)).length (ints (Qu.runesOf (l.take k))) rfl (HOw.out.alloc _) ⟨wr.heap.size, 0, none⟩ 1 1 [.int .i64 x] rfl rfl (cells_new _ _ rfl) (ints_oneCell .i64 [x]) (by unfold maxLen; omega) (by omega) (by simp; omega) ?_; intro v2 w2 hown2 hg2 _)
          refine (hex_is u HXN.out HXL.out HU.out _).mono ?_
          rintro e w' ⟨rfl, rfl⟩
          go_wp2_with fail
          refine (hex_is u HYN.out HYL.out HV.out _).mono ?_
          rintro e w' ⟨rfl, rfl⟩
          go_wp2_with fail
          have N := Lib.hid (HR.out.next hkl HRX.out HEE.out (by rw [HE.out]; exact hown2) hg2)
          clear hown2 hg2
          go_roundw
          case rel => exact ⟨k + 1, _, by omega, by go_num, rfl, by have := N.out; rwa [← ByteArray.append_assoc] at this⟩
          case measure => simp [intOf]; omega
      · obtain rfl : k = n := by omega
        have HK := Lib.hid (show l.take k = l by rw [HN.out, List.take_length])
        have HS2 := Lib.hid (show S = txt (Qu.eBody u l) by rw [HS.out, HK.out])
        have HSZ := Lib.hid (show S.size = (Qu.eBody u l).length by rw [HS2.out, txt_size])
        rw [HK.out] at HOw hrl
        obtain ⟨A2, c2, rfl, hm, hnum⟩ := own_num HOw.out
        have HNUM := Lib.hid hnum
        obtain ⟨m, HM⟩ : ∃ m, Hid (m = (Qu.runesOf l).length) := ⟨_, rfl⟩
        rw [← HM.out] at HOw hrl ⊢
        clear hm hnum hlt HR hss
        have hss : S.size ≤ 2400 := by rw [HSZ.out]; have := eBody_len u l; have := HN.out; omega
        obtain ⟨Z1, HZ1⟩ : ∃ Z, Hid (Z = (⟨#[34]⟩ : ByteArray) ++ S ++ ⟨#[34]⟩) := ⟨_, rfl⟩
        go_wp2_with fail
        refine (puts_conv (l := Qu.runesOf l) _ HM.out HNUM.out (by omega) (HT.out.below HBR.out)).mono ?_
        rintro e w1 ⟨A3, n3, c3, P, rfl, hcv, hP, hb⟩
        have HP := Lib.hid (show P = txt (Qu.eText l) by rw [hP, puts_runes])
        have HO1 := Lib.hid hb
        have HB1 := Lib.hid (below_tr2 HBR.out hb)
        clear hP hb
        go_wp2_with fail
        refine (is_any (l := 34 :: (Qu.eBody u l ++ [34])) (x := true) _ (by rw [HS2.out, show (⟨#[34]⟩ : ByteArray) = txt [34] from rfl, txt_app, txt_app]; rfl) HP.out (by have := HSZ.out; simp; omega) (by rw [Qu.esc_all]; simp [isB]) (HT.out.below HB1.out)).mono ?_
        rintro e w2 ⟨rfl, hb⟩
        have HO2 := Lib.hid (HO1.out.trans (hb.mono HO1.out.size))
        have HB2 := Lib.hid (below_tr2 HB1.out hb)
        clear hb hcv
        have hmod : (k : Int) * 7 % 2048 = (k : Int) * 7 := by omega
        obtain ⟨O, HOO⟩ : ∃ O, Hid (O = txt (Qu.hexs u (56320 + k))) := ⟨_, rfl⟩
        obtain ⟨F, HF⟩ : ∃ F, Hid (F = txt (Qu.hexs u (55296 + k * 7))) := ⟨_, rfl⟩
        have ho6 : O.size = 6 := by rw [HOO.out]; rfl
        have hf6 : F.size = 6 := by rw [HF.out]; rfl
        go_wp2_with fail
        refine (hex_is (n := 56320 + k) u (by omega) (by omega) HOO.out _).mono ?_
        rintro e w3 ⟨rfl, rfl⟩
        go_wp2_with fail
        obtain ⟨G, hG⟩ : ∃ G, decide (55296 + (k : Int) * 7 < 56320) = G := ⟨_, rfl⟩
        rw [hG]
        have HGG := Lib.hid hG.symm
        have HLO := Lib.hid (show Qu.low (56320 + k) = true by simp [Qu.low]; omega)
        have HHL := Lib.hid (show Qu.high (55296 + k * 7) = true ∨ Qu.low (55296 + k * 7) = true by simp [Qu.low, Qu.high]; omega)
        have H34 := Lib.hid (show (⟨#[34]⟩ : ByteArray) = txt [34] from rfl)
        clear hG hmod
        refine (hex_is (n := 55296 + k * 7) u (by omega) (by omega) HF.out _).mono ?_
        rintro e w3 ⟨rfl, rfl⟩
        go_wp2_with fail
        refine (fault_any (l := 34 :: (Qu.eBody u l ++ (Qu.hexs u (55296 + k * 7) ++ [34]))) (x := true) 6 _ _ (by rw [HS2.out, HF.out, H34.out, txt_app, txt_app, txt_app]; congr 1; simp) (by have := HSZ.out; simp [Qu.hexs_len]; omega) (by omega) (flB_half (Qu.half_end u l HHL.out) (by rw [HSZ.out]; rfl)) (HT.out.below HB2.out)).mono ?_
        rintro e w3 ⟨rfl, hb⟩
        have HO3 := Lib.hid (HO2.out.trans (hb.mono HO2.out.size))
        have HB3 := Lib.hid (below_tr2 HB2.out hb)
        clear hb
        go_wp2_with fail
        refine (hex_is (n := 55296 + k * 7) u (by omega) (by omega) HF.out _).mono ?_
        rintro e w4 ⟨rfl, rfl⟩
        go_wp2_with fail
        refine (fault_any (l := 34 :: (Qu.eBody u l ++ (Qu.hexs u (55296 + k * 7) ++ (97 :: (Qu.hexs u (56320 + k) ++ [34]))))) (x := true) 6 _ _ (by rw [HS2.out, HF.out, HOO.out, H34.out, show (⟨#[97]⟩ : ByteArray) = txt [97] from rfl, txt_app, txt_app, txt_app, txt_app, txt_app]; congr 1; simp) (by have := HSZ.out; simp [Qu.hexs_len]; omega) (by omega) (flB_half (Qu.half_a u l HHL.out _) (by rw [HSZ.out]; rfl)) (HT.out.below HB3.out)).mono ?_
        rintro e w4 ⟨rfl, hb⟩
        have HO4 := Lib.hid (HO3.out.trans (hb.mono HO3.out.size))
        have HB4 := Lib.hid (below_tr2 HB3.out hb)
        clear hb
        go_wp2_with fail
        refine (hex_is (n := 55296 + k * 7) u (by omega) (by omega) HF.out _).mono ?_
        rintro e w5 ⟨rfl, rfl⟩
        go_wp2_with fail
        refine (fault_any (l := 34 :: (Qu.eBody u l ++ (Qu.hexs u (56320 + k) ++ (Qu.hexs u (55296 + k * 7) ++ [34])))) (x := true) 6 _ _ (by rw [HS2.out, HF.out, HOO.out, H34.out, txt_app, txt_app, txt_app, txt_app]; congr 1; simp) (by have := HSZ.out; simp [Qu.hexs_len]; omega) (by omega) (flB_half (Qu.half_low u l HLO.out _) (by rw [HSZ.out]; rfl)) (HT.out.below HB4.out)).mono ?_
        rintro e w5 ⟨rfl, hb⟩
        have HO5 := Lib.hid (HO4.out.trans (hb.mono HO4.out.size))
        have HB5 := Lib.hid (below_tr2 HB4.out hb)
        clear hb
        go_wp2_with fail
        refine (hex_is (n := 55296 + k * 7) u (by omega) (by omega) HF.out _).mono ?_
        rintro e w6 ⟨rfl, rfl⟩
        have HOW := Lib.hid (own_keep HOw.out HO5.out)
        have hb5 : w.heap.size ≤ w5.heap.size := HB5.out.size
        go_wp2_with (at_builtin; refine wpList_append_g _ rfl (.tmp 136) (.tmp 144) 32 rfl w.heap.size 3 i0 (.int .i64 0) 1 8 Tryd.underlying32 hi hz0 hz1 hz2 rfl (by decide) _ m (ints (Qu.runesOf l)) rfl (HOW.out.alloc _) ⟨w5.heap.size, 0, none⟩ 1 1 [.int .i64 (65536 + 1024 * (55296 + (k : Int) * 7 - 55296) + k)] rfl rfl (cells_new _ _ rfl) (ints_oneCell .i64 [65536 + 1024 * (55296 + (k : Int) * 7 - 55296) + k]) (by unfold maxLen; omega) (by omega) (by simp; omega) ?_; intro v6 w6 hown6 hg6 _; obtain ⟨A6, c6, rfl, hm6, hnum6⟩ := own_num (l := Qu.runesOf l ++ [65536 + 1024 * (55296 + (k : Int) * 7 - 55296) + k]) (by rw [show ints (Qu.runesOf l ++ [65536 + 1024 * (55296 + (k : Int) * 7 - 55296) + k]) = ints (Qu.runesOf l) ++ [.int .i64 (65536 + 1024 * (55296 + (k : Int) * 7 - 55296) + k)] by simp [ints]]; exact hown6); have HM6 := Lib.hid hm6; have HN6 := Lib.hid hnum6; have HB6 := Lib.hid (below_app HB5.out HOW.out hg6); clear hown6 hg6 hm6 hnum6)
        refine (puts_conv (l := Qu.runesOf l ++ [65536 + 1024 * (55296 + (k : Int) * 7 - 55296) + k]) _ HM6.out HN6.out (by omega) (HT.out.below HB6.out)).mono ?_
        rintro e w7 ⟨A7, n7, c7, P7, rfl, hcv7, hP7, hb⟩
        have HP7 := Lib.hid hP7
        have HB7 := Lib.hid (below_tr2 HB6.out hb)
        clear hP7 hb
        go_wp2_with fail
        refine (is_any (l := 34 :: (Qu.eBody u l ++ (Qu.hexs u (55296 + k * 7) ++ (Qu.hexs u (56320 + k) ++ [34])))) (x := G) _ (by rw [HS2.out, HF.out, HOO.out, H34.out, txt_app, txt_app, txt_app, txt_app]; congr 1; simp) HP7.out (by have := HSZ.out; simp [Qu.hexs_len]; omega) (by rw [HGG.out]; exact both_is u l (by omega)) (HT.out.below HB7.out)).mono ?_
        rintro e w8 ⟨rfl, hb⟩
        have HB8 := Lib.hid (below_tr2 HB7.out hb)
        clear hb hcv7
        have hgg : (G == G) = true := by simp
        go_wp2_with fail
        refine (HL.out _ (HT.out.below HB8.out)).mono ?_
        rintro e w9 ⟨rfl, hb⟩
        have HB9 := Lib.hid (below_tr2 HB8.out hb)
        clear hb
        go_wp2_with fail
        go_ret
        exact ⟨rfl, HB9.out⟩
  · have h3 : (200 : Int) < n := by omega
    clear ha
    go_enter Tryd.func6, Tryd.ntmps6
    go_wp2_with fail
    refine (HL.out _ HT.out).mono ?_
    rintro e w1 ⟨rfl, hb⟩
    have HB1 := Lib.hid hb
    clear hb
    go_wp2_with fail
    go_ret
    exact ⟨rfl, HB1.out⟩
end Go.Proofs.YtilokhbhkbikiaaDoor
