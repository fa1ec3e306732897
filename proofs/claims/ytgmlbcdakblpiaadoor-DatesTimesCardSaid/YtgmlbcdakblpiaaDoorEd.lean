/- The document's bounds. -/
import Derived.Test.YtgmlbcdakblpiaaDoorEc
namespace Go.Proofs.YtgmlbcdakblpiaaDoor
open Go.RowKit
namespace Da

theorem tw_v {l : List UInt8} {i : Nat} (h : t2 l i = true) : tw l i = v2 l i := by rw [tw, if_pos h]
/-- The bounds told by the text's own places. -/
theorem mD_at {l : List UInt8} (h : dte l = true) : mD (pD l) = decide (1 ≤ tw l 5 ∧ tw l 5 ≤ 12 ∧ 1 ≤ tw l 8 ∧ tw l 8 ≤ days (100 * tw l 0 + tw l 2) (tw l 5)) := by
  obtain ⟨a1, a2, _, a3, _, a4⟩ := dte_iff.1 h
  rw [mD, pD, if_pos h, v2_tk (by omega), v2_tk (by omega), v2_tk (by omega), v2_tk (by omega), tw_v a1, tw_v a2, tw_v a3, tw_v a4]
theorem mT_at {l : List UInt8} (h : hT l = true) : mT (pT l) = decide (tw l (tp l) ≤ 23 ∧ tw l (tp l + 3) ≤ 59 ∧ (tw l (tp l + 6) ≤ 59 ∨ tw l (tp l + 6) = 60 ∧ tw l (tp l + 3) = 59)) := by
  obtain ⟨a1, _, a2, _, a3⟩ := clk_iff.1 (hT_clk h)
  rw [mT, pT, if_pos h, v2_tk (by omega), v2_tk (by omega), v2_tk (by omega), v2_dr, v2_dr, v2_dr, tw_v a1, tw_v a2, tw_v a3, Nat.add_zero]
theorem mZ_at {l : List UInt8} (h : pZ l ≠ []) : mZ (pZ l) = decide (nZ l ≠ 6 ∨ tw l (tp l + 8 + nF l + 1) ≤ 23 ∧ tw l (tp l + 8 + nF l + 4) ≤ 59) := by
  obtain ⟨h1, h2, h3⟩ := pZ_zt h
  have hz : nZ l = zn l (tp l + 8 + nF l) := by rw [nZ, if_pos ⟨h1, h2⟩]
  have hl := pZ_len l
  rcases h3 with ⟨e, _⟩ | ⟨e, e2⟩
  · rw [mZ, decide_eq_true (.inl (by omega)), decide_eq_true (.inl (by omega))]
  · have h6 : nZ l = 6 := by omega
    have hzs : zs l (tp l + 8 + nF l) = true := by
      have := e2
      rw [pZ, h6, zs_tk (by omega), zs_dr, Nat.add_zero] at this; exact this
    obtain ⟨_, b1, _, b2⟩ := zs_iff.1 hzs
    rw [mZ, pZ, h6, v2_tk (by omega), v2_tk (by omega), v2_dr, v2_dr, tw_v b1, tw_v b2]
    refine decide_eq_decide.2 ⟨fun g => .inr (g.resolve_left ?_), fun g => .inr (g.resolve_left (fun q => q rfl))⟩
    have e3 : ((l.drop (tp l + 8 + nF l)).take 6).length = 6 := by
      have := pZ_len l
      rw [pZ, h6] at this; exact this
    rw [e3]; omega
/-- The form's block. -/
def BW (w wx : World) (a b c d : Int) : Prop := Below w.heap.size w wx ∧ wx.heap[w.heap.size]? = some (fob a b c d)
theorem BW.start {w : World} {a b c d : Int} : BW w (w.alloc (fob a b c d)) a b c d := ⟨(Below.refl _ _).alloc (Nat.le_refl _) _, by show (w.heap.push _)[w.heap.size]? = _; simp⟩
theorem BW.on {w wx wy : World} {a b c d : Int} (h : BW w wx a b c d) (hb : Below wx.heap.size wx wy) : BW w wy a b c d := ⟨below_tr h.1 hb, by rw [hb.block _ (lt_of_block h.2)]; exact h.2⟩
set_option maxHeartbeats 8000000 in
set_option maxRecDepth 100000 in
theorem rmay_is {l : List UInt8} {s : ByteArray} {K T Z E : Int} {x : Bool} (w : World) (hs : s = txt l) (hl : l.length ≤ 1000000) (hk : kd l ≠ 0) (hK : K = (kd l : Nat)) (hTt : T = tmI l) (hZ : Z = znI l) (hE : E = (en l : Nat)) (hx : x = ok (pD l) (pT l) (pZ l)) :
    Calls Tryd.prog 22 #[.string s, fv K T Z E] w fun e w' => e = .returned (.bool x) ∧ Below w.heap.size w w' := by
  have C2 := Lib.hid (fun (j : Nat) (hj : j ≤ 1000100) (x : Int) (hx : x = j) (y : Int) (hy : y = tw l j) w => two_is j w hs hl hj hx hy)
  have hen := en_le l
  have hsh := sh_of hk
  have htl := fun h => clk_in (hT_clk (l := l) h)
  have hfl : hT l = true → tp l + 8 + nF l ≤ l.length := fun h => by rw [nF, if_pos h]; exact frc_in (htl h)
  have tpl : tp l ≤ 11 := by unfold tp; split <;> omega
  -- the three questions
  have K2 : K = 2 ↔ dte l = false := by
    rw [hK]
    cases hd : dte l
    · have a : pD l = [] := by rw [pD, hd]; rfl
      have z : pZ l = [] := by
        by_cases z : pZ l = []
        · exact z
        · have := (pZ_zt z).1; rw [hd] at this; cases this
      have t : pT l ≠ [] := by
        rcases hsh.n with h | h
        · exact absurd a h
        · exact h
      rw [kd, kd4, a, z, if_neg (fun h => h rfl), if_neg (fun h => h.1 rfl), if_pos t]
      simp
    · have a : pD l ≠ [] := fun e => by have := pD_len hd; rw [e] at this; cases this
      simp only [Bool.true_eq_false, iff_false]
      unfold kd kd4
      split
      · decide
      · split
        · decide
        · split
          · rename_i h1 h2 h3; exact absurd ⟨a, h3⟩ h2
          · first | decide | (split <;> decide) | simp
  obtain ⟨xD, hxD⟩ : ∃ b, b = (decide (pD l = []) || mD (pD l)) := ⟨_, rfl⟩
  obtain ⟨xT, hxT⟩ : ∃ b, b = (decide (pT l = []) || mT (pT l)) := ⟨_, rfl⟩
  obtain ⟨xZ, hxZ⟩ : ∃ b, b = (decide (pZ l = []) || mZ (pZ l)) := ⟨_, rfl⟩
  have X := Lib.hid (show x = (xD && xT && xZ) by rw [hx, hxD, hxT, hxZ]; rfl)
  have XD0 := Lib.hid (fun (h : K = 2) => show xD = true by rw [hxD, pD, K2.1 h]; rfl)
  have XD1 := Lib.hid (fun (h : ¬ K = 2) => show xD = decide (1 ≤ tw l 5 ∧ tw l 5 ≤ 12 ∧ 1 ≤ tw l 8 ∧ tw l 8 ≤ days (100 * tw l 0 + tw l 2) (tw l 5)) ∧ (0 ≤ tw l 0 ∧ 0 ≤ tw l 2) by
    have hd : dte l = true := by cases hd : dte l
                                 · exact absurd (K2.2 hd) h
                                 · rfl
    have a : pD l ≠ [] := fun e => by have := pD_len hd; rw [e] at this; cases this
    obtain ⟨a1, a2, _⟩ := dte_iff.1 hd
    exact ⟨by rw [hxD, decide_eq_false a, mD_at hd]; rfl, tw_pos.2 a1, tw_pos.2 a2⟩)
  have XT0 := Lib.hid (fun (h : ¬ 0 ≤ T) => show xT = true by
    have hh : hT l = false := by
      cases hh : hT l
      · rfl
      · rw [hTt, tmI, hh, if_pos rfl] at h; exact absurd (by omega) h
    rw [hxT, pT, hh]; rfl)
  have XT1 := Lib.hid (fun (h : 0 ≤ T) => show (T = (tp l : Nat)) ∧ xT = decide (tw l (tp l) ≤ 23 ∧ tw l (tp l + 3) ≤ 59 ∧ (tw l (tp l + 6) ≤ 59 ∨ tw l (tp l + 6) = 60 ∧ tw l (tp l + 3) = 59)) by
    have hh : hT l = true := by
      cases hh : hT l
      · rw [hTt, tmI, hh, if_neg (by simp)] at h; exact absurd h (by decide)
      · rfl
    have a : pT l ≠ [] := fun e => by have := pT_len hh; rw [e] at this; cases this
    exact ⟨by rw [hTt, tmI, if_pos hh], by rw [hxT, decide_eq_false a, mT_at hh]; rfl⟩)
  have XZ0 := Lib.hid (fun (h : ¬ 0 ≤ Z) => show xZ = true by
    have hz : nZ l = 0 := by
      rcases Nat.eq_zero_or_pos (nZ l) with h0 | h0
      · exact h0
      · rw [hZ, znI, if_pos h0] at h; exact absurd (by omega) h
    have : pZ l = [] := List.eq_nil_of_length_eq_zero (by rw [pZ_len, hz])
    rw [hxZ, this]; rfl)
  have XZ1 := Lib.hid (fun (h : 0 ≤ Z) => show Z = ((tp l + 8 + nF l : Nat) : Int) ∧ tp l + 8 + nF l ≤ 1000000 ∧ xZ = decide (¬ E - Z = 6 ∨ tw l (tp l + 8 + nF l + 1) ≤ 23 ∧ tw l (tp l + 8 + nF l + 4) ≤ 59) by
    have hz : 0 < nZ l := by
      rcases Nat.eq_zero_or_pos (nZ l) with h0 | h0
      · rw [hZ, znI, if_neg (by omega)] at h; exact absurd h (by decide)
      · exact h0
    have a : pZ l ≠ [] := fun e => by have := pZ_len l; rw [e] at this; simp at this; omega
    have hh := (pZ_zt a).2.1
    have e1 : Z = ((tp l + 8 + nF l : Nat) : Int) := by rw [hZ, znI, if_pos hz]
    have e2 : E = ((tp l + 8 + nF l + nZ l : Nat) : Int) := by rw [hE, en, if_pos hh]
    have := hfl hh
    refine ⟨e1, by omega, ?_⟩
    rw [hxZ, decide_eq_false a, mZ_at a, Bool.false_or]
    refine decide_eq_decide.2 (or_congr_left ?_)
    rw [e1, e2]
    omega)
  have ZB : -1 ≤ Z ∧ Z ≤ 1000000 ∧ -1 ≤ T ∧ T ≤ 11 ∧ 0 ≤ E ∧ E ≤ 1000000 := by
    refine ⟨?_, ?_, ?_, ?_, by omega, by omega⟩
    · rw [hZ, znI]; split <;> omega
    · rcases Int.lt_or_le Z 0 with g | g
      · omega
      · have := XZ1.out g; omega
    · rw [hTt, tmI]; split <;> omega
    · rw [hTt, tmI]; split <;> omega
  obtain ⟨zb0, zb1, tb0, tb1, eb0, eb1⟩ := ZB
  have TL := Lib.hid (fun j => tw_le l j)
  have TPL := Lib.hid tpl
  have F0 := Lib.hid (BW.start (w := w) (a := K) (b := T) (c := Z) (d := E))
  clear hs hl hk hK hTt hZ hE hx hen hsh htl hfl K2 hxD hxT hxZ tpl
  go_enter Tryd.func22, Tryd.ntmps22
  go_upto_region 1 with fail
  generalize hW0 : w.alloc (fob K T Z E) = w0 at F0
  obtain ⟨⟨c0, c1, c2, c3⟩, f0, f1, f2, f3⟩ := four_cells F0.out.2
  clear hW0 f0 f1 f2 f3
  go_upto_if 12 with fail
  go_cut [3] (fun a wx => a = .pointer (some ⟨w.heap.size, 0, none⟩) ∧ BW w wx K T Z E ∧ xD = true)
  case first =>
    by_cases k2 : K = 2
    · have E1 := Lib.hid (XD0.out k2)
      subst k2
      clear XD0 XD1 XT0 XT1 XZ0 XZ1
      go_wp2_with fail
      go_meet
      exact ⟨rfl, F0.out, E1.out⟩
    · obtain ⟨e1, p0, p2⟩ := XD1.out k2
      have k2' : (K == 2) = false := by simpa using k2
      obtain ⟨a, ha⟩ : ∃ y, y = tw l 0 := ⟨_, rfl⟩
      obtain ⟨b, hb2⟩ : ∃ y, y = tw l 2 := ⟨_, rfl⟩
      obtain ⟨m, hm⟩ : ∃ y, y = tw l 5 := ⟨_, rfl⟩
      obtain ⟨d, hd⟩ : ∃ y, y = tw l 8 := ⟨_, rfl⟩
      obtain ⟨a9, b9, m9, d9⟩ : (-1 ≤ a ∧ a ≤ 99) ∧ (-1 ≤ b ∧ b ≤ 99) ∧ (-1 ≤ m ∧ m ≤ 99) ∧ (-1 ≤ d ∧ d ≤ 99) := by rw [ha, hb2, hm, hd]; exact ⟨TL.out 0, TL.out 2, TL.out 5, TL.out 8⟩
      obtain ⟨_, a9⟩ := a9
      obtain ⟨_, b9⟩ := b9
      obtain ⟨m8, m9⟩ := m9
      obtain ⟨d8, d9⟩ := d9
      rw [← ha] at p0
      rw [← hb2] at p2
      obtain ⟨n, hn⟩ : ∃ n, n = days (100 * a + b) m := ⟨_, rfl⟩
      rw [← ha, ← hb2, ← hm, ← hd, ← hn] at e1
      have CY := Lib.hid (fun w => rdays_is (y := 100 * a + b) (m := m) w (by omega) (by omega) hn)
      have HA := Lib.hid (And.intro ha (And.intro hb2 (And.intro hm hd)))
      have E1 := Lib.hid e1
      clear e1 ha hb2 hm hd hn k2 XD0 XD1 XT0 XT1 XZ0 XZ1
      go_wp2_with fail
      refine (C2.out 0 (by omega) _ (by omega) _ HA.out.1 _).mono ?_
      rintro e w1 ⟨rfl, hb⟩
      have F1 := Lib.hid (F0.out.on hb)
      clear hb c0 c1 c2 c3
      obtain ⟨⟨c0, c1, c2, c3⟩, f0, f1, f2, f3⟩ := four_cells F1.out.2
      clear f0 f1 f2 f3
      go_wp2_with fail
      refine (C2.out 2 (by omega) _ (by omega) _ HA.out.2.1 _).mono ?_
      rintro e w2 ⟨rfl, hb⟩
      have F2 := Lib.hid (F1.out.on hb)
      clear hb c0 c1 c2 c3
      obtain ⟨⟨c0, c1, c2, c3⟩, f0, f1, f2, f3⟩ := four_cells F2.out.2
      clear f0 f1 f2 f3
      go_wp2_with fail
      refine (C2.out 5 (by omega) _ (by omega) _ HA.out.2.2.1 _).mono ?_
      rintro e w3 ⟨rfl, hb⟩
      have F3 := Lib.hid (F2.out.on hb)
      clear hb c0 c1 c2 c3
      obtain ⟨⟨c0, c1, c2, c3⟩, f0, f1, f2, f3⟩ := four_cells F3.out.2
      clear f0 f1 f2 f3
      by_cases g1 : 1 ≤ m
      · by_cases g2 : m ≤ 12
        · skip
          go_wp2_with fail
          refine (C2.out 8 (by omega) _ (by omega) _ HA.out.2.2.2 _).mono ?_
          rintro e w4 ⟨rfl, hb⟩
          have F4 := Lib.hid (F3.out.on hb)
          clear hb c0 c1 c2 c3
          obtain ⟨⟨c0, c1, c2, c3⟩, f0, f1, f2, f3⟩ := four_cells F4.out.2
          clear f0 f1 f2 f3
          by_cases g3 : 1 ≤ d
          · skip
            go_wp2_with fail
            refine (C2.out 8 (by omega) _ (by omega) _ HA.out.2.2.2 _).mono ?_
            rintro e w5 ⟨rfl, hb⟩
            have F5 := Lib.hid (F4.out.on hb)
            clear hb c0 c1 c2 c3
            obtain ⟨⟨c0, c1, c2, c3⟩, f0, f1, f2, f3⟩ := four_cells F5.out.2
            clear f0 f1 f2 f3
            go_wp2_with fail
            refine (CY.out _).mono ?_
            rintro e w6 ⟨rfl, hb⟩
            have F6 := Lib.hid (F5.out.on hb)
            clear hb c0 c1 c2 c3
            obtain ⟨⟨c0, c1, c2, c3⟩, f0, f1, f2, f3⟩ := four_cells F6.out.2
            clear f0 f1 f2 f3
            by_cases g4 : d ≤ n
            · have EX := Lib.hid (show xD = true by rw [E1.out, decide_eq_true (by omega)])
              go_wp2_with fail
              go_meet
              exact ⟨rfl, F6.out, EX.out⟩
            · skip
              have EX := Lib.hid (show x = false by rw [X.out, E1.out, decide_eq_false (by omega)]; rfl)
              go_wp2_with fail
              go_ret
              exact ⟨ret_bool EX.out.symm, F6.out.1⟩
          · skip
            have EX := Lib.hid (show x = false by rw [X.out, E1.out, decide_eq_false (by omega)]; rfl)
            go_wp2_with fail
            go_ret
            exact ⟨ret_bool EX.out.symm, F4.out.1⟩
        · skip
          have EX := Lib.hid (show x = false by rw [X.out, E1.out, decide_eq_false (by omega)]; rfl)
          go_wp2_with fail
          go_ret
          exact ⟨ret_bool EX.out.symm, F3.out.1⟩
      · skip
        have EX := Lib.hid (show x = false by rw [X.out, E1.out, decide_eq_false (by omega)]; rfl)
        go_wp2_with fail
        go_ret
        exact ⟨ret_bool EX.out.symm, F3.out.1⟩
  case rest =>
    obtain ⟨rfl, hbw, hxd⟩ := hcut
    have F10 := Lib.hid hbw
    have GD := Lib.hid hxd
    clear hbw hxd c0 c1 c2 c3 F0
    obtain ⟨⟨c0, c1, c2, c3⟩, f0, f1, f2, f3⟩ := four_cells F10.out.2
    clear f0 f1 f2 f3
    go_upto_if 42 with fail
    go_cut [3] (fun a wx => a = .pointer (some ⟨w.heap.size, 0, none⟩) ∧ BW w wx K T Z E ∧ xT = true)
    case first =>
      by_cases t0 : 0 ≤ T
      · obtain ⟨e1, e2⟩ := XT1.out t0
        obtain ⟨h, hh⟩ : ∃ y, y = tw l (tp l) := ⟨_, rfl⟩
        obtain ⟨m, hm⟩ : ∃ y, y = tw l (tp l + 3) := ⟨_, rfl⟩
        obtain ⟨d, hd⟩ : ∃ y, y = tw l (tp l + 6) := ⟨_, rfl⟩
        obtain ⟨h9, m9, d9⟩ : (-1 ≤ h ∧ h ≤ 99) ∧ (-1 ≤ m ∧ m ≤ 99) ∧ (-1 ≤ d ∧ d ≤ 99) := by rw [hh, hm, hd]; exact ⟨TL.out _, TL.out _, TL.out _⟩
        obtain ⟨h8, h9⟩ := h9
        obtain ⟨m8, m9⟩ := m9
        obtain ⟨d8, d9⟩ := d9
        rw [← hh, ← hm, ← hd] at e2
        have HA := Lib.hid (And.intro hh (And.intro hm hd))
        have E1 := Lib.hid e2
        have ET := Lib.hid e1
        clear e1 e2 hh hm hd XD0 XD1 XT0 XT1 XZ0 XZ1
        go_wp2_with fail
        refine (C2.out (tp l) (by have := TPL.out; omega) _ ET.out _ HA.out.1 _).mono ?_
        rintro e w11 ⟨rfl, hb⟩
        have F11 := Lib.hid (F10.out.on hb)
        clear hb c0 c1 c2 c3
        obtain ⟨⟨c0, c1, c2, c3⟩, f0, f1, f2, f3⟩ := four_cells F11.out.2
        clear f0 f1 f2 f3
        go_wp2_with fail
        refine (C2.out (tp l + 3) (by have := TPL.out; omega) _ (by rw [ET.out]; rfl) _ HA.out.2.1 _).mono ?_
        rintro e w12 ⟨rfl, hb⟩
        have F12 := Lib.hid (F11.out.on hb)
        clear hb c0 c1 c2 c3
        obtain ⟨⟨c0, c1, c2, c3⟩, f0, f1, f2, f3⟩ := four_cells F12.out.2
        clear f0 f1 f2 f3
        go_wp2_with fail
        refine (C2.out (tp l + 6) (by have := TPL.out; omega) _ (by rw [ET.out]; rfl) _ HA.out.2.2 _).mono ?_
        rintro e w13 ⟨rfl, hb⟩
        have F13 := Lib.hid (F12.out.on hb)
        clear hb c0 c1 c2 c3
        obtain ⟨⟨c0, c1, c2, c3⟩, f0, f1, f2, f3⟩ := four_cells F13.out.2
        clear f0 f1 f2 f3
        by_cases g1 : h ≤ 23
        · by_cases g2 : m ≤ 59
          · by_cases g3 : d ≤ 60
            · by_cases g4 : d = 60
              · by_cases g5 : m = 59
                · subst g4 g5
                  have EX := Lib.hid (show xT = true by rw [E1.out, decide_eq_true (by omega)])
                  go_wp2_with fail
                  go_meet
                  exact ⟨rfl, F13.out, EX.out⟩
                · have g5' : (m != 59) = true := by simpa using g5
                  subst g4
                  have EX := Lib.hid (show x = false by rw [X.out, E1.out, decide_eq_false (by omega), Bool.and_false]; rfl)
                  go_wp2_with fail
                  go_ret
                  exact ⟨ret_bool EX.out.symm, F13.out.1⟩
              · have g4' : (d == 60) = false := by simpa using g4
                have EX := Lib.hid (show xT = true by rw [E1.out, decide_eq_true (by omega)])
                go_wp2_with fail
                go_meet
                exact ⟨rfl, F13.out, EX.out⟩
            · skip
              have EX := Lib.hid (show x = false by rw [X.out, E1.out, decide_eq_false (by omega), Bool.and_false]; rfl)
              go_wp2_with fail
              go_ret
              exact ⟨ret_bool EX.out.symm, F13.out.1⟩
          · skip
            have EX := Lib.hid (show x = false by rw [X.out, E1.out, decide_eq_false (by omega), Bool.and_false]; rfl)
            go_wp2_with fail
            go_ret
            exact ⟨ret_bool EX.out.symm, F13.out.1⟩
        · skip
          have EX := Lib.hid (show x = false by rw [X.out, E1.out, decide_eq_false (by omega), Bool.and_false]; rfl)
          go_wp2_with fail
          go_ret
          exact ⟨ret_bool EX.out.symm, F13.out.1⟩
      · have E1 := Lib.hid (XT0.out t0)
        clear XD0 XD1 XT0 XT1 XZ0 XZ1
        go_wp2_with fail
        go_meet
        exact ⟨rfl, F10.out, E1.out⟩
    case rest =>
      obtain ⟨rfl, hbw, hxt⟩ := hcut
      have F20 := Lib.hid hbw
      have GT := Lib.hid hxt
      clear hbw hxt c0 c1 c2 c3 F10
      obtain ⟨⟨c0, c1, c2, c3⟩, f0, f1, f2, f3⟩ := four_cells F20.out.2
      clear f0 f1 f2 f3
      have XX := Lib.hid (show x = xZ by rw [X.out, GD.out, GT.out]; rfl)
      by_cases z0 : 0 ≤ Z
      · obtain ⟨e1, e2, e3⟩ := XZ1.out z0
        obtain ⟨h, hh⟩ : ∃ y, y = tw l (tp l + 8 + nF l + 1) := ⟨_, rfl⟩
        obtain ⟨m, hm⟩ : ∃ y, y = tw l (tp l + 8 + nF l + 4) := ⟨_, rfl⟩
        obtain ⟨h9, m9⟩ : (-1 ≤ h ∧ h ≤ 99) ∧ (-1 ≤ m ∧ m ≤ 99) := by rw [hh, hm]; exact ⟨TL.out _, TL.out _⟩
        obtain ⟨h8, h9⟩ := h9
        obtain ⟨m8, m9⟩ := m9
        rw [← hh, ← hm] at e3
        have HA := Lib.hid (And.intro hh hm)
        have E3 := Lib.hid e3
        have E1 := Lib.hid e1
        have E2 := Lib.hid e2
        clear e1 e2 e3 hh hm XD0 XD1 XT0 XT1 XZ0 XZ1 X GD GT
        by_cases g6 : E - Z = 6
        · skip
          obtain rfl : E = Z + 6 := by omega
          go_wp2_with fail
          refine (C2.out (tp l + 8 + nF l + 1) (by have := E2.out; omega) _ (by rw [E1.out]; rfl) _ HA.out.1 _).mono ?_
          rintro e w21 ⟨rfl, hb⟩
          have F21 := Lib.hid (F20.out.on hb)
          clear hb c0 c1 c2 c3
          obtain ⟨⟨c0, c1, c2, c3⟩, f0, f1, f2, f3⟩ := four_cells F21.out.2
          clear f0 f1 f2 f3
          by_cases g1 : h ≤ 23
          · skip
            go_wp2_with fail
            refine (C2.out (tp l + 8 + nF l + 4) (by have := E2.out; omega) _ (by rw [E1.out]; rfl) _ HA.out.2 _).mono ?_
            rintro e w22 ⟨rfl, hb⟩
            have F22 := Lib.hid (F21.out.on hb)
            clear hb c0 c1 c2 c3
            obtain ⟨⟨c0, c1, c2, c3⟩, f0, f1, f2, f3⟩ := four_cells F22.out.2
            clear f0 f1 f2 f3
            by_cases g2 : m ≤ 59
            · have EX := Lib.hid (show x = true by rw [XX.out, E3.out, decide_eq_true (by omega)])
              go_wp2_with fail
              go_ret
              exact ⟨ret_bool EX.out.symm, F22.out.1⟩
            · have EX := Lib.hid (show x = false by rw [XX.out, E3.out, decide_eq_false (by omega)])
              go_wp2_with fail
              go_ret
              exact ⟨ret_bool EX.out.symm, F22.out.1⟩
          · have EX := Lib.hid (show x = false by rw [XX.out, E3.out, decide_eq_false (by omega)])
            go_wp2_with fail
            go_ret
            exact ⟨ret_bool EX.out.symm, F21.out.1⟩
        · have EX := Lib.hid (show x = true by rw [XX.out, E3.out, decide_eq_true (by omega)])
          have g6' : (E - Z == 6) = false := by simpa using g6
          go_wp2_with fail
          go_ret
          exact ⟨ret_bool EX.out.symm, F20.out.1⟩
      · have EX := Lib.hid (show x = true by rw [XX.out]; exact XZ0.out z0)
        clear XD0 XD1 XT0 XT1 XZ0 XZ1 X GD GT
        go_wp2_with fail
        go_ret
        exact ⟨ret_bool EX.out.symm, F20.out.1⟩
end Da
end Go.Proofs.YtgmlbcdakblpiaaDoor
