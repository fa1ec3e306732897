/- The law DecimalsWays, walked. -/
import Derived.Test.YtbbcjnbpghjklaaDoorWays
import Derived.Test.YtbbcjnbpghjklaaDoorLawValue
import Derived.OwnWalk
import Derived.Laws.AppendOwn
namespace Go.Proofs.YtbbcjnbpghjklaaDoor
open Go.RowKit

theorem repeat_is {k : Nat} {z : ByteArray} (hz : z = txt (zs k)) (hk : k ≤ 1000) (w : World) :
    Calls Tryd.prog 20 #[.string ⟨#[48]⟩, .int .i64 k] w fun e w' => e = .returned (.string z) ∧ Below w.heap.size w w' := by
  refine (Tryd.strings_Repeat ⟨#[48]⟩ k w (by omega) (by show 1 * k ≤ _; omega)).mono ?_
  rintro e w' ⟨rfl, hb⟩
  exact ⟨by rw [hz, ← rep_zs]; rfl, hb⟩
def wy (n e : Int) (k : Nat) (i : Nat) : List UInt8 := if i = 0 then wy0 n e k else if i = 1 then wy1 n e k else if i = 2 then wy2 n e k else wy3 n e k
/-- A row of texts, and what lies beside it. -/
structure LS (w : World) (F : Nat → List UInt8) (g N : Nat) (wr : World) : Prop where
  below : Below w.heap.size w wr
  more : g < wr.heap.size
  cells : ∀ i, i < N → wr.cell? ⟨g, i, none⟩ = some (.string (txt (F i)))
theorem LS.on {w : World} {F : Nat → List UInt8} {g N : Nat} {wr w' : World} (h : LS w F g N wr) (hb : Below wr.heap.size wr w') : LS w F g N w' :=
  ⟨h.below.trans (hb.mono h.below.size), Nat.lt_of_lt_of_le h.more hb.size, fun i hi => (hb.cell (by exact h.more)).trans (h.cells i hi)⟩
theorem cell_two_new (w : World) (a b : Value) (t : TypeId) : ∀ j u, ([a, b] : List Value)[j]? = some u → (w.alloc (.cells #[a, b] t)).cell? ((⟨w.heap.size, 0, none⟩ : Addr).add j) = some u := by
  intro j u h
  rw [addAt]
  match j, h with
  | 0, h => obtain rfl := Option.some.inj h; rw [World.cell?_alloc_at _ _ _ _ rfl]; rfl
  | 1, h => obtain rfl := Option.some.inj h; rw [World.cell?_alloc_at _ _ _ _ rfl]; rfl
  | j + 2, h => simp at h
theorem one_two (a b : ByteArray) : ∀ u ∈ ([.string a, .string b] : List Value), u.oneCell' = true := by
  intro u hu
  simp at hu
  rcases hu with rfl | rfl <;> rfl
set_option maxHeartbeats 8000000 in
set_option maxRecDepth 100000 in
theorem lawways_any {n pw c : Int} (a1 : -2147483648 ≤ n) (a2 : n ≤ 2147483647) (p1 : -32768 ≤ pw) (p2 : pw ≤ 32767) (d1 : 0 ≤ c) (d2 : c ≤ 255) (w : World) (htab : Tab w) :
    Calls Tryd.prog 6 #[.int .i32 n, .int .i16 pw, .int .u8 c] w fun e w' => e = .returned (.bool true) ∧ Below w.heap.size w w' := by
  obtain ⟨k, hk⟩ : ∃ k : Nat, c.tmod 40 = k := ⟨(c % 40).toNat, by rw [Int.tmod_eq_emod_of_nonneg d1]; omega⟩
  have hk40 : k ≤ 40 := by rw [Int.tmod_eq_emod_of_nonneg d1] at hk; omega
  obtain ⟨e, he⟩ : ∃ p, pw.tmod 1001 = p := ⟨_, rfl⟩
  have e2 : e ≤ 1000 := by have : e < 1001 := by { rw [← he]; exact Int.tmod_lt_of_pos _ (by omega) }
                           omega
  have e1 : -1000 ≤ e := by
    have := Int.tmod_lt_of_pos (-pw) (show (0 : Int) < 1001 by omega)
    rw [Int.neg_tmod, he] at this; omega
  have hn20 : n.natAbs < 10 ^ 20 := by omega
  obtain ⟨y0, y1, y23⟩ := ways (e := e) (k := k) hn20 hk40 e1 e2
  have hws := want_spec hn20 e1 e2
  have TW := wyW_told hn20 e1 e2
  obtain ⟨wa, hwa⟩ : ∃ x, x = (rd (wyW n e)).1 := ⟨_, rfl⟩
  rw [← hwa] at y0 y1 y23 hws
  have hwn : norm wa = true := by rw [hwa]; exact TW.norm
  have lN : (itoN n.natAbs).length ≤ 20 := itoN_short2 hn20
  have lS : (itoL n).length ≤ 21 := by rw [itoL_sg]; have := sgl (decide (n < 0)); simp; omega
  have lE : (itoL e).length ≤ 21 := by rw [itoL_sg]; have := sgl (decide (e < 0)); have : (itoN e.natAbs).length ≤ 20 := itoN_short2 (by omega); simp; omega
  have lE1 : (itoL (e - k)).length ≤ 21 := by rw [itoL_sg]; have := sgl (decide (e - (k : Int) < 0)); have : (itoN (e - k).natAbs).length ≤ 20 := itoN_short2 (by omega); simp; omega
  have lA : (itoN e.natAbs).length ≤ 20 := itoN_short2 (by omega)
  have lW : wa.length ≤ 3000 := by rw [hwa]; exact rdl_len (by unfold wyW; simp; omega)
  obtain ⟨S, hS⟩ : ∃ x, x = txt (itoL n) := ⟨_, rfl⟩
  obtain ⟨Z, hZ⟩ : ∃ x, x = txt (zs k) := ⟨_, rfl⟩
  obtain ⟨E0, hE0⟩ : ∃ x, x = txt (itoL e) := ⟨_, rfl⟩
  obtain ⟨E1, hE1⟩ : ∃ x, x = txt (itoL (e - k)) := ⟨_, rfl⟩
  obtain ⟨G, hG⟩ : ∃ x, x = txt (if e < 0 then [45] else [43]) := ⟨_, rfl⟩
  obtain ⟨A, hA⟩ : ∃ x, x = txt (itoN e.natAbs) := ⟨_, rfl⟩
  obtain ⟨WA, hWA⟩ : ∃ x, x = txt wa := ⟨_, rfl⟩
  obtain ⟨b1, hb1⟩ : ∃ x, S ++ ByteArray.mk #[101] = x := ⟨_, rfl⟩
  obtain ⟨WT, hWT⟩ : ∃ x, b1 ++ E0 = x := ⟨_, rfl⟩
  obtain ⟨s1, hs1⟩ : ∃ x, S ++ ByteArray.mk #[46] = x := ⟨_, rfl⟩
  obtain ⟨s2, hs2⟩ : ∃ x, s1 ++ Z = x := ⟨_, rfl⟩
  obtain ⟨s3, hs3⟩ : ∃ x, s2 ++ ByteArray.mk #[48, 101] = x := ⟨_, rfl⟩
  obtain ⟨T0, hT0⟩ : ∃ x, s3 ++ E0 = x := ⟨_, rfl⟩
  obtain ⟨u1, hu1⟩ : ∃ x, S ++ ByteArray.mk #[69] = x := ⟨_, rfl⟩
  obtain ⟨u2, hu2⟩ : ∃ x, u1 ++ G = x := ⟨_, rfl⟩
  obtain ⟨u3, hu3⟩ : ∃ x, u2 ++ Z = x := ⟨_, rfl⟩
  obtain ⟨T1, hT1⟩ : ∃ x, u3 ++ A = x := ⟨_, rfl⟩
  obtain ⟨v1, hv1⟩ : ∃ x, S ++ Z = x := ⟨_, rfl⟩
  obtain ⟨v2, hv2⟩ : ∃ x, v1 ++ ByteArray.mk #[101] = x := ⟨_, rfl⟩
  obtain ⟨T2, hT2⟩ : ∃ x, v2 ++ E1 = x := ⟨_, rfl⟩
  obtain ⟨x2, hx2⟩ : ∃ x, v1 ++ ByteArray.mk #[46, 48, 101] = x := ⟨_, rfl⟩
  obtain ⟨T3, hT3⟩ : ∃ x, x2 ++ E1 = x := ⟨_, rfl⟩
  have tWT : WT = txt (wyW n e) := by rw [← hWT, ← hb1, hS, hE0]; show txt _ ++ txt [101] ++ txt _ = _; rw [txt_app, txt_app]; rfl
  have t0 : T0 = txt (wy n e k 0) := by rw [← hT0, ← hs3, ← hs2, ← hs1, hS, hZ, hE0]; show txt _ ++ txt [46] ++ txt _ ++ txt [48, 101] ++ txt _ = _; rw [txt_app, txt_app, txt_app, txt_app]; rfl
  have t1 : T1 = txt (wy n e k 1) := by rw [← hT1, ← hu3, ← hu2, ← hu1, hS, hZ, hG, hA]; show txt _ ++ txt [69] ++ txt _ ++ txt _ ++ txt _ = _; rw [txt_app, txt_app, txt_app, txt_app]; rfl
  have t2 : T2 = txt (wy n e k 2) := by rw [← hT2, ← hv2, ← hv1, hS, hZ, hE1]; show txt _ ++ txt _ ++ txt [101] ++ txt _ = _; rw [txt_app, txt_app, txt_app]; rfl
  have t3 : T3 = txt (wy n e k 3) := by rw [← hT3, ← hx2, ← hv1, hS, hZ, hE1]; show txt _ ++ txt _ ++ txt [46, 48, 101] ++ txt _ = _; rw [txt_app, txt_app, txt_app]; rfl
  have zS : S.size ≤ 21 := by rw [hS, txt_size]; exact lS
  have zZ : Z.size ≤ 40 := by rw [hZ, txt_size, zs_len]; exact hk40
  have zE0 : E0.size ≤ 21 := by rw [hE0, txt_size]; exact lE
  have zE1 : E1.size ≤ 21 := by rw [hE1, txt_size]; exact lE1
  have zG : G.size ≤ 1 := by rw [hG, txt_size]; split <;> simp
  have zA : A.size ≤ 20 := by rw [hA, txt_size]; exact lA
  have zb1 : b1.size ≤ 100 := by rw [← hb1, ByteArray.size_append]; show _ + 1 ≤ _; omega
  have zs1 : s1.size ≤ 100 := by rw [← hs1, ByteArray.size_append]; show _ + 1 ≤ _; omega
  have zs2 : s2.size ≤ 200 := by rw [← hs2, ByteArray.size_append]; omega
  have zs3 : s3.size ≤ 300 := by rw [← hs3, ByteArray.size_append]; show _ + 2 ≤ _; omega
  have zu1 : u1.size ≤ 100 := by rw [← hu1, ByteArray.size_append]; show _ + 1 ≤ _; omega
  have zu2 : u2.size ≤ 200 := by rw [← hu2, ByteArray.size_append]; omega
  have zu3 : u3.size ≤ 300 := by rw [← hu3, ByteArray.size_append]; omega
  have zv1 : v1.size ≤ 100 := by rw [← hv1, ByteArray.size_append]; omega
  have zv2 : v2.size ≤ 200 := by rw [← hv2, ByteArray.size_append]; show _ + 1 ≤ _; omega
  have zx2 : x2.size ≤ 200 := by rw [← hx2, ByteArray.size_append]; show _ + 3 ≤ _; omega
  have FO := Lib.hid (fun w h => format_is (n := n) hS (by omega) (by omega) w h)
  have RP := Lib.hid (fun w => repeat_is (k := k) hZ (by omega) w)
  have I0 := Lib.hid (fun w h => itoa_is (n := e) hE0 (by omega) (by omega) w h)
  have I1 := Lib.hid (fun w h => itoa_is (n := e - k) hE1 (by omega) (by omega) w h)
  have IA := Lib.hid (fun w h => itoa_is (n := (e.natAbs : Int)) (x := A) (by rw [hA]; unfold itoL; rw [if_neg (by omega)]; simp) (by omega) (by omega) w h)
  have RW := Lib.hid (fun w h => lread_to (s := WT) (u := WA) (c := 0) w h tWT hWA (by unfold wyW; simp; omega) (by rw [hwa, ← TW.code]))
  have PA := Lib.hid (fun w h => dparts_any (l := wa) (s := WA) w h hWA (by omega))
  have HL := Lib.hid lives_any
  have HT := Lib.hid htab
  have HY := Lib.hid (show ∀ i N : Nat, i < N → (N = 2 ∨ N = 4 ∧ n ≠ 0) → Way (wy n e k i) wa by
    intro i N hi hN
    have : i = 0 ∨ i = 1 ∨ i = 2 ∨ i = 3 := by omega
    rcases this with rfl | rfl | rfl | rfl
    · exact y0
    · exact y1
    · exact (y23 (by omega)).1
    · exact (y23 (by omega)).2)
  have HS := Lib.hid hws
  have HN := Lib.hid hwn
  have HWA := Lib.hid hWA
  have HG0 := Lib.hid (show e < 0 → G = ⟨#[45]⟩ by intro h; rw [hG, if_pos h]; rfl)
  have HG1 := Lib.hid (show 0 ≤ e → G = ⟨#[43]⟩ by intro h; rw [hG, if_neg (by omega)]; rfl)
  have Hb1 := Lib.hid hb1
  have HWT := Lib.hid hWT
  have H0 := Lib.hid (And.intro hs1 (And.intro hs2 (And.intro hs3 hT0)))
  have H1 := Lib.hid (And.intro hu1 (And.intro hu2 (And.intro hu3 hT1)))
  have H2 := Lib.hid (And.intro hv1 (And.intro hv2 hT2))
  have H3 := Lib.hid (And.intro hx2 hT3)
  have HT0 := Lib.hid t0
  have HT1 := Lib.hid t1
  have HT2 := Lib.hid t2
  have HT3 := Lib.hid t3
  have hpw : IntKind.i64.wrap pw = pw := IntWalk.i64_in _ (by omega)
  have HB0 := Lib.hid (Below.refl w.heap.size w)
  clear y0 y1 y23 hws TW hwa hwn lN lS lE lE1 lA lW hS hZ hE0 hE1 hG hA hWA hb1 hWT hs1 hs2 hs3 hT0 hu1 hu2 hu3 hT1 hv1 hv2 hT2 hx2 hT3 tWT t0 t1 t2 t3 hn20 htab
  go_enter Tryd.func6, Tryd.ntmps6
  go_wp2_with fail
  refine (FO.out _ (HT.out.on HB0.out)).mono ?_
  rintro en w1 ⟨rfl, hb⟩
  have HB1 := Lib.hid (HB0.out.trans (hb.mono HB0.out.size))
  clear hb
  go_wp2_with fail
  refine (RP.out _).mono ?_
  rintro en w2 ⟨rfl, hb⟩
  have HB2 := Lib.hid (HB1.out.trans (hb.mono HB1.out.size))
  clear hb
  have hb1 := Hb1.out
  go_wp2_with fail
  refine (I0.out _ (HT.out.on HB2.out)).mono ?_
  rintro en w3 ⟨rfl, hb⟩
  have HB3 := Lib.hid (HB2.out.trans (hb.mono HB2.out.size))
  clear hb
  have hWT := HWT.out
  go_wp2_with fail
  refine (RW.out _ (HT.out.on HB3.out)).mono ?_
  rintro en w4 ⟨rfl, hb⟩
  have HB4 := Lib.hid (HB3.out.trans (hb.mono HB3.out.size))
  clear hb hb1 hWT
  go_upto_if 38 with fail
  go_cut [12] (fun v wx => v = .string G ∧ w4 = wx)
  case first =>
    by_cases h : e < 0
    · have E := Lib.hid (HG0.out h)
      go_wp2_with fail
      go_meet
      exact ⟨by rw [E.out], rfl⟩
    · have E := Lib.hid (HG1.out (by omega))
      go_wp2_with fail
      go_meet
      exact ⟨by rw [E.out], rfl⟩
  case rest =>
    obtain ⟨rfl, rfl⟩ := hcut
    clear HG0 HG1 FO RP RW Hb1 HWT
    have hmax : max e (-e) = (e.natAbs : Int) := by omega
    go_wp2_with fail
    refine (IA.out _ (HT.out.on HB4.out)).mono ?_
    rintro en w5 ⟨rfl, hb⟩
    have HB5 := Lib.hid (HB4.out.trans (hb.mono HB4.out.size))
    clear hb
    obtain ⟨g1, g2, g3, g4⟩ := H0.out
    clear hmax
    go_wp2_with fail
    clear g4
    refine (I0.out _ (HT.out.on HB5.out)).mono ?_
    rintro en w6 ⟨rfl, hb⟩
    have HB6 := Lib.hid (HB5.out.trans (hb.mono HB5.out.size))
    clear hb
    obtain ⟨g5, g6, g7, g8⟩ := H1.out
    have g4 := H0.out.2.2.2
    go_upto_region 11 with fail
    clear g1 g2 g3 g4 g5 g6 g7 g8
    have HL2 := Lib.hid (show LS w (wy n e k) w6.heap.size 2 (w6.alloc (.cells #[.string T0, .string T1] 9)) from
      ⟨HB6.out.alloc HB6.out.size _, by simp, fun i hi => by
        have : i = 0 ∨ i = 1 := by omega
        rcases this with rfl | rfl
        · rw [← HT0.out]; simp [go_sem]
        · rw [← HT1.out]; simp [go_sem]⟩)
    have HH := Lib.hid (show (w6.alloc (.cells #[.string T0, .string T1] 9)).heap[w6.heap.size]? = some (.cells #[.string T0, .string T1] 9 (0, 0)) by
      show (w6.heap.push _)[w6.heap.size]? = _
      simp)
    generalize hW7 : w6.alloc (.cells #[.string T0, .string T1] 9) = w7 at HL2 HH
    generalize hg : w6.heap.size = g at HL2 HH
    have hg0 : w.heap.size ≤ g := by rw [← hg]; exact HB6.out.size
    have HB7 := Lib.hid HL2.out.below
    clear hW7 hg HB6 HB5 HB4 HB3 HB2 HB1 HB0 IA I0 H0 H1
    go_upto_if 62 with fail
    go_cut [14] (fun v wx => ∃ (g N cap : Nat), v = .slice (some ⟨g, 0, none⟩) N cap ∧ LS w (wy n e k) g N wx ∧ (N = 2 ∨ N = 4 ∧ n ≠ 0))
    case first =>
      by_cases hn0 : n = 0
      · have hn1 : (n != 0) = false := by simp [hn0]
        rw [hn1]
        clear hn1 hn0
        go_wp2_with fail
        go_meet
        exact ⟨g, 2, 2, rfl, HL2.out, Or.inl rfl⟩
      · have hn1 : (n != 0) = true := by simp [hn0]
        have HN0 := Lib.hid hn0
        rw [hn1]
        clear hn1 hn0
        obtain ⟨g1, g2, g3⟩ := H2.out
        go_wp2_with fail
        refine (I1.out _ (HT.out.on HB7.out)).mono ?_
        rintro en w8 ⟨rfl, hb⟩
        have HB8 := Lib.hid (HB7.out.trans (hb.mono HB7.out.size))
        have HH8 := Lib.hid ((hb.block g HL2.out.more).trans HH.out)
        clear hb
        obtain ⟨g4, g5⟩ := H3.out
        go_wp2_with fail
        refine (I1.out _ (HT.out.on HB8.out)).mono ?_
        rintro en w9 ⟨rfl, hb⟩
        have HB9 := Lib.hid (HB8.out.trans (hb.mono HB8.out.size))
        have hlt8 : g < w8.heap.size := by
          rcases Nat.lt_or_ge g w8.heap.size with h | h
          · exact h
          · have := HH8.out; rw [Array.getElem?_eq_none h] at this; cases this
        have HH9 := Lib.hid ((hb.block g hlt8).trans HH8.out)
        clear hb
        obtain ⟨i9, hi9, hz0, hz1, hz2⟩ := info_parts (show (Tryd.prog.info? 9).map (fun i => (i.zero, i.size, i.bytes)) = some (some (.string ⟨#[]⟩), 1, 16) by kernel_rfl)
        have hown : w9.ownsRow w.heap.size 9 1 (.slice (some ⟨g, 0, none⟩) 2 2) 2 [.string T0, .string T1] :=
          ⟨rfl, .inr ⟨g, 2, #[.string T0, .string T1], rfl, hg0, HH9.out, by omega, by unfold maxLen; omega, rfl, rfl⟩⟩
        go_wp2_with (at_builtin; refine wpList_append_own _ rfl (.tmp 63) (.tmp 82) 26 rfl w.heap.size 9 i9 (.string ⟨#[]⟩) 1 16 Tryd.underlying26 hi9 hz0 hz1 hz2 rfl (by decide) _ 2 [.string T0, .string T1] rfl (hown.alloc _) ⟨w9.heap.size, 0, none⟩ 2 2 [.string T2, .string T3] rfl rfl (cell_two_new _ _ _ _) (one_two _ _) (by unfold maxLen; omega) (by omega) (by have := HB9.out.size; simp; omega) ?_; intro v2 wz hown2 hg2 _)
        have hbz : Below w.heap.size w wz := (HB9.out.alloc HB9.out.size _).grown hg2 (by have := HB9.out.size; simp; omega) (fun k hk => by cases hk; exact hg0)
        have hown3 := hown2
        rcases hown3.2 with ⟨_, h0⟩ | ⟨g', cap', cur, rfl, hbg, hh, hle, _, _, _⟩
        · omega
        · have hlz : g' < wz.heap.size := by
            rcases Nat.lt_or_ge g' wz.heap.size with h | h
            · exact h
            · rw [Array.getElem?_eq_none h] at hh; cases hh
          have HLZ := Lib.hid (show LS w (wy n e k) g' 4 wz from ⟨hbz, hlz, fun i hi => by
            have hc := hown2.cellAt i (by omega)
            rw [hc]
            have : i = 0 ∨ i = 1 ∨ i = 2 ∨ i = 3 := by omega
            rcases this with rfl | rfl | rfl | rfl
            · rw [← HT0.out]; rfl
            · rw [← HT1.out]; rfl
            · rw [← HT2.out]; rfl
            · rw [← HT3.out]; rfl⟩)
          clear hown hown2 hown3 hg2 hbz hh hlz hbg hle
          go_wp2_with fail
          go_meet
          exact ⟨g', 4, cap', rfl, HLZ.out, Or.inr ⟨rfl, HN0.out⟩⟩
    case rest =>
      obtain ⟨g, N, cap, rfl, hls, hN⟩ := hcut
      have HLS := Lib.hid hls
      have HNN := Lib.hid hN
      have hN4 : N ≤ 4 := by omega
      clear hls hN I1 H2 H3 HT0 HT1 HT2 HT3 HH HL2 HB7 hg0
      go_wp2_with fail
      go_loopw [15] (fun v wr => ∃ i : Nat, i ≤ N ∧ v = .int .i64 i ∧ LS w (wy n e k) g N wr) (fun v _ => N - (intOf v).toNat)
      case atStart => exact ⟨0, Nat.zero_le _, rfl, HLS.out⟩
      case round =>
        obtain ⟨i, hi, rfl, hls⟩ := hrel
        have HL0 := Lib.hid hls
        clear hls
        by_cases hlt : i < N
        · have y := HY.out i N hlt HNN.out
          obtain ⟨t, ht⟩ : ∃ t, t = txt (wy n e k i) := ⟨_, rfl⟩
          have hc := HL0.out.cells i hlt
          rw [← ht] at hc
          have hlen := y.len
          have hts : t.size ≤ 300 := by rw [ht, txt_size]; exact hlen
          obtain ⟨ta, hta⟩ : ∃ x, t ++ ByteArray.mk #[46] = x := ⟨_, rfl⟩
          obtain ⟨tb, htb⟩ : ∃ x, t ++ ByteArray.mk #[32] = x := ⟨_, rfl⟩
          obtain ⟨tc, htc⟩ : ∃ x, ByteArray.mk #[48] ++ t = x := ⟨_, rfl⟩
          obtain ⟨td, htd⟩ : ∃ x, ByteArray.mk #[43] ++ t = x := ⟨_, rfl⟩
          have R0 := Lib.hid (fun w h => lread_to (s := t) (u := WA) (c := 0) w h ht HWA.out (by omega) y.read)
          have R1 := Lib.hid (fun w h => lread_to (l := wy n e k i ++ [46]) (s := ta) (u := ⟨#[]⟩) (c := 3) w h (by rw [← hta, ht]; show txt _ ++ txt [46] = _; rw [txt_app]) rfl (by simp; omega) y.dot)
          have R2 := Lib.hid (fun w h => lread_to (l := wy n e k i ++ [32]) (s := tb) (u := ⟨#[]⟩) (c := 3) w h (by rw [← htb, ht]; show txt _ ++ txt [32] = _; rw [txt_app]) rfl (by simp; omega) y.blank)
          have R3 := Lib.hid (fun w h => lread_to (l := 48 :: wy n e k i) (s := tc) (u := ⟨#[]⟩) (c := 3) w h (by rw [← htc, ht]; show txt [48] ++ txt _ = _; rw [txt_app]; rfl) rfl (by simp; omega) y.zero)
          have R4 := Lib.hid (fun w h => lread_to (l := 43 :: wy n e k i) (s := td) (u := ⟨#[]⟩) (c := 3) w h (by rw [← htd, ht]; show txt [43] ++ txt _ = _; rw [txt_app]; rfl) rfl (by simp; omega) y.plus)
          have HTT := Lib.hid ht
          have HA := Lib.hid hta
          have HBb := Lib.hid htb
          have HC := Lib.hid htc
          have HD := Lib.hid htd
          have hwa2 : (WA.toList == WA.toList) = true := by simp
          clear y ht hlen hta htb htc htd
          go_wp2_with fail
          refine (R0.out _ (HT.out.on HL0.out.below)).mono ?_
          rintro en w21 ⟨rfl, hb⟩
          have HL1 := Lib.hid (HL0.out.on hb)
          clear hb hc
          have hc := HL1.out.cells i hlt
          rw [← HTT.out] at hc
          have hx := HA.out
          go_wp2_with fail
          clear hx
          refine (R1.out _ (HT.out.on HL1.out.below)).mono ?_
          rintro en w22 ⟨rfl, hb⟩
          have HL2 := Lib.hid (HL1.out.on hb)
          clear hb hc
          have hc := HL2.out.cells i hlt
          rw [← HTT.out] at hc
          have hx := HBb.out
          go_wp2_with fail
          clear hx
          refine (R2.out _ (HT.out.on HL2.out.below)).mono ?_
          rintro en w23 ⟨rfl, hb⟩
          have HL3 := Lib.hid (HL2.out.on hb)
          clear hb hc
          have hc := HL3.out.cells i hlt
          rw [← HTT.out] at hc
          have hx := HC.out
          go_wp2_with fail
          clear hx
          refine (R3.out _ (HT.out.on HL3.out.below)).mono ?_
          rintro en w24 ⟨rfl, hb⟩
          have HL4 := Lib.hid (HL3.out.on hb)
          clear hb hc
          have hc := HL4.out.cells i hlt
          rw [← HTT.out] at hc
          have hx := HD.out
          go_wp2_with fail
          clear hx
          refine (R4.out _ (HT.out.on HL4.out.below)).mono ?_
          rintro en w25 ⟨rfl, hb⟩
          have HL5 := Lib.hid (HL4.out.on hb)
          clear hb hc
          go_wp2_with fail
          go_roundw
          case rel => exact ⟨i + 1, by omega, by go_num, HL5.out⟩
          case measure => simp [intOf]; omega
        · obtain rfl : i = N := by omega
          obtain ⟨m, hm⟩ : ∃ m, m = ptM wa := ⟨_, rfl⟩
          obtain ⟨d, hd⟩ : ∃ d, d = txt (ptD wa) := ⟨_, rfl⟩
          obtain ⟨x, hx⟩ : ∃ x, x = ptX wa := ⟨_, rfl⟩
          have PB := Lib.hid PA.out
          rw [HN.out, ← hm, ← hd, ← hx] at PB
          have hds : 1 ≤ d.size ∧ (d.extract 0 1).toList.isEmpty = false ∧ (n = 0 ∧ m = false ∧ (d.toList == [48]) = true ∨ (n ≠ 0 ∧ m = decide (n < 0) ∧ (d.toList == [48]) = false ∧ e ≤ x)) := by
            have key : ∀ D : List UInt8, D ≠ [] → 1 ≤ (txt D).size ∧ ((txt D).extract 0 1).toList.isEmpty = false := by
              intro D hD
              cases D with
              | nil => exact absurd rfl hD
              | cons a r => exact ⟨by rw [txt_size]; simp, by rw [txt_cut, txt_list]; rfl⟩
            rcases HS.out with ⟨h0, hw⟩ | ⟨h0, h1, h2, h3⟩
            · have hp : ptM wa = false ∧ ptD wa = [48] := by rw [hw]; exact ⟨nought_parts.1, nought_parts.2.1⟩
              have hk := key [48] (by simp)
              rw [hd, hp.2]
              exact ⟨hk.1, hk.2, Or.inl ⟨h0, by rw [hm, hp.1], by rw [txt_list]; rfl⟩⟩
            · have hk := key (ptD wa) h2.some
              rw [hd]
              exact ⟨hk.1, hk.2, Or.inr ⟨h0, by rw [hm, h1], by rw [txt_list, leq]; exact decide_eq_false h2.ne, by rw [hx]; exact h3⟩⟩
          clear hm hd hx PA
          obtain ⟨z1, z2, z3⟩ := hds
          go_wp2_with fail
          refine (PB.out _ (HT.out.on HL0.out.below)).mono ?_
          rintro en w21 ⟨rfl, hb⟩
          have HL1 := Lib.hid (HL0.out.on hb)
          clear hb
          rcases z3 with ⟨rfl, rfl, h3⟩ | ⟨h0, rfl, h3, h4⟩
          · by_cases hxe : e ≤ x
            · go_wp2_with fail
              refine (HL.out _ (HT.out.on HL1.out.below)).mono ?_
              rintro en w22 ⟨rfl, hb⟩
              have HL2 := Lib.hid (HL1.out.on hb)
              clear hb
              go_wp2_with fail
              go_ret
              exact ⟨rfl, HL2.out.below⟩
            · go_wp2_with fail
              refine (HL.out _ (HT.out.on HL1.out.below)).mono ?_
              rintro en w22 ⟨rfl, hb⟩
              have HL2 := Lib.hid (HL1.out.on hb)
              clear hb
              go_wp2_with fail
              go_ret
              exact ⟨rfl, HL2.out.below⟩
          · have h0' : (n == 0) = false := by simpa using h0
            clear h0
            go_wp2_with fail
            refine (HL.out _ (HT.out.on HL1.out.below)).mono ?_
            rintro en w22 ⟨rfl, hb⟩
            have HL2 := Lib.hid (HL1.out.on hb)
            clear hb
            go_wp2_with fail
            go_ret
            exact ⟨rfl, HL2.out.below⟩
end Go.Proofs.YtbbcjnbpghjklaaDoor
