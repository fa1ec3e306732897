/- What landed of values: a part's text, and a comma behind it; an entry's. -/
import Derived.Test.YtnnlgodgaolkkaaGreatDoorLrm
import Derived.Test.YtnnlgodgaolkkaaGreatDoorLnm
import Derived.Deep.RegionHeldLaw
namespace Go.Proofs.YtnnlgodgaolkkaaGreatDoor
open Go.RowKit
namespace Va
set_option maxRecDepth 100000

set_option maxHeartbeats 4000000 in
theorem putElement_any {x : V} {W b v : Value} {base : Nat} {u : Bs} (w : World) (hv : Vm w v x) (_hs : base ≤ w.heap.size) (hl : u.length + 1 ≤ 900000000)
    (C : ∀ w' : World, Below w.heap.size w w' → Calls Tryz.prog 63 #[W, b, v] w' fun e w'' => ∃ b', e = .returned b' ∧ BW base w'' b' u ∧ BG w' w'' b b') :
    Calls Tryz.prog 78 #[W, b, v] w fun e w' => ∃ b', e = .returned b' ∧ BW base w' b' (u ++ [44]) ∧ BG w w' b b' := by
  obtain ⟨i0, hi, hz0, hz1, hz2⟩ := info_parts (show (Tryz.prog.info? 5).map (fun i => (i.zero, i.size, i.bytes)) = some (some (.int .u8 0), 1, 1) by kernel_rfl)
  obtain ⟨k, t, l, ks⟩ := x
  obtain ⟨A, B, c, d, rfl, _⟩ := hv.inv
  obtain ⟨T, hT⟩ : ∃ T, T = txt t := ⟨_, rfl⟩
  rw [← hT] at C ⊢
  have HC := Lib.hid C
  clear hv hT C
  go_enter Tryz.func78, Tryz.ntmps78
  go_wp2_with fail
  refine (HC.out _ (below_new ..)).mono ?_
  rintro e w2 ⟨b', rfl, h1, h2⟩
  have HB := Lib.hid h1
  have HG := Lib.hid ((BG.call b (below_new w (vO (.int .u8 k) (.string T) (.slice A l.length c) (.slice B ks.length d)))).trans h2)
  clear h1 h2
  go_wp2_with (at_builtin; refine wpAppB _ rfl (.tmp 10) (.tmp 11) 66 rfl base i0 Tryz.underlying66 hi hz0 hz1 hz2 b' u rfl (HB.out.on (below_new ..)) 44 w2.heap.size rfl (cell_fst1 ..) (by omega) ?_; intro v2 w3 h1 h2)
  go_ret
  exact ⟨_, rfl, h1, (HG.out.trans (BG.call _ (below_new ..))).trans h2⟩
set_option maxHeartbeats 8000000 in
theorem putEntry_any {x : V} {e : En} {W b : Value} {base : Nat} {t u : Bs} (w : World) (hv : Vb base w e.val x) (hb : BW base w b t) (hT : TB base w) (hk : e.key.length ≤ 1000000) (hl : t.length + (Qu.wrq e.key).length + 1 + u.length + 1 ≤ 900000000)
    (C : ∀ (w' : World) (b' : Value), Below base w w' → BW base w' b' (t ++ Qu.wrq e.key ++ [58]) → Calls Tryz.prog 78 #[W, b', e.val] w' fun r w'' => ∃ b'', r = .returned b'' ∧ BW base w'' b'' (t ++ Qu.wrq e.key ++ [58] ++ u ++ [44]) ∧ BG w' w'' b' b'') :
    Calls Tryz.prog 81 #[W, b, .agg e.enc.toArray] w fun r w' => ∃ b', r = .returned b' ∧ BW base w' b' (t ++ ent e.key u ++ [44]) ∧ BG w w' b b' := by
  obtain ⟨i0, hi, hz0, hz1, hz2⟩ := info_parts (show (Tryz.prog.info? 5).map (fun i => (i.zero, i.size, i.bytes)) = some (some (.int .u8 0), 1, 1) by kernel_rfl)
  have HE := Lib.hid (show t ++ Qu.wrq e.key ++ [58] ++ u ++ [44] = t ++ ent e.key u ++ [44] by rw [ent]; simp)
  rw [HE.out] at C
  obtain ⟨k1, n1, t1, A1, a1, b1, B1, c1, d1⟩ := e
  have hk : k1.length ≤ 1000000 := hk
  have hl : t.length + (Qu.wrq k1).length + 1 + u.length + 1 ≤ 900000000 := hl
  have C : Hid (∀ (w' : World) (b' : Value), Below base w w' → BW base w' b' (t ++ Qu.wrq k1 ++ [58]) → Calls Tryz.prog 78 #[W, b', .agg #[.int .u8 n1, .string t1, .slice A1 a1 b1, .slice B1 c1 d1]] w' fun r w'' => ∃ b'', r = .returned b'' ∧ BW base w'' b'' (t ++ ent k1 u ++ [44]) ∧ BG w' w'' b' b'') := Lib.hid C
  show Calls Tryz.prog 81 #[W, b, .agg #[.string (txt k1), .int .u8 n1, .string t1, .slice A1 a1 b1, .slice B1 c1 d1]] w fun r w' => ∃ b', r = .returned b' ∧ BW base w' b' (t ++ ent k1 u ++ [44]) ∧ BG w w' b b'
  obtain ⟨S, hS⟩ : ∃ S, S = txt k1 := ⟨_, rfl⟩
  have CW := Lib.hid (fun (w' : World) (h : TB base w') => qwrite_any w' hS hk h.1 (Nat.lt_of_lt_of_le h.2.1 h.2.2))
  rw [← hS]
  obtain ⟨q, hq⟩ : ∃ q, q = Qu.wrq k1 := ⟨_, rfl⟩
  rw [← hq] at CW C hl
  obtain ⟨R, hR⟩ : ∃ R, R = t ++ ent k1 u ++ [44] := ⟨_, rfl⟩
  rw [← hR] at C ⊢
  have HB := Lib.hid hb
  have HT := Lib.hid hT
  have HL := Lib.hid hl
  have HV := Lib.hid hv
  clear hb hT hv hS hq hR hk hl
  obtain ⟨W1, hW1⟩ : ∃ W, W = w.alloc (eO (.string S) (.int .u8 n1) (.string t1) (.slice A1 a1 b1) (.slice B1 c1 d1)) := ⟨_, rfl⟩
  have hb1 : Below w.heap.size w W1 := by rw [hW1]; exact below_new ..
  have F1 := five_new w (.string S) (.int .u8 n1) (.string t1) (.slice A1 a1 b1) (.slice B1 c1 d1)
  rw [← hW1] at F1
  have HO := Lib.hid (show W1.heap[w.heap.size]? = some (eO (.string S) (.int .u8 n1) (.string t1) (.slice A1 a1 b1) (.slice B1 c1 d1)) from by rw [hW1]; exact heap_alloc_new ..)
  have HB1 := Lib.hid hb1
  have HW1 := Lib.hid hW1
  clear hb1 hW1
  go_enter Tryz.func81, Tryz.ntmps81
  go_upto_region 1 with fail
  rw [← HW1.out]
  obtain ⟨h, hh⟩ : ∃ h, h = w.heap.size := ⟨_, rfl⟩
  rw [← hh] at HO F1 ⊢
  have f0 := F1.1
  clear HW1 F1 hh
  go_wp2_with fail
  refine (CW.out _ (HT.out.on (below_b HB1.out HB.out.2))).mono ?_
  rintro e w2 ⟨rfl, hb⟩
  have HB2 := Lib.hid (below_tr HB1.out hb)
  have HO2 := Lib.hid ((hb.block h (Array.getElem?_eq_some_iff.1 HO.out).1).trans HO.out)
  clear hb f0 HO
  go_wp2_with (first
    | (at_builtin; refine wpAppT _ rfl (.tmp 7) (.tmp 10) 66 9 rfl base i0 Tryz.underlying66 Tryz.underlying9 hi hz0 hz1 hz2 b t rfl (HB.out.on HB2.out) _ q rfl rfl (by have := HL.out; omega) ?_; intro v3 w3 h1 h2; have H3 := Lib.hid h1; have G3 := Lib.hid ((BG.call b HB2.out).trans h2); have O3 := Lib.hid (keepE (HB.out.on HB2.out) h2 HO2.out); clear h1 h2)
    | (at_builtin; refine wpAppB _ rfl (.tmp 11) (.tmp 12) 66 rfl base i0 Tryz.underlying66 hi hz0 hz1 hz2 v3 (t ++ q) rfl (H3.out.on (below_new ..)) 58 w3.heap.size rfl (cell_fst1 ..) (by have := HL.out; rw [List.length_append]; omega) ?_; intro v4 w4 h1 h2; have H4 := Lib.hid h1; have G4 := Lib.hid ((G3.out.trans (BG.call v3 (below_new ..))).trans h2); have O4 := Lib.hid (keepE (H3.out.on (below_new ..)) h2 ((((below_new _ _).block h (Array.getElem?_eq_some_iff.1 O3.out).1)).trans O3.out)); clear h1 h2; obtain ⟨y1, y2, y3, y4⟩ := ecells O4.out))
  refine (C.out _ _ (HB.out.below G4.out) H4.out).mono ?_
  rintro e w5 ⟨b5, rfl, h1, h2⟩
  have H5 := Lib.hid h1
  have G5 := Lib.hid (G4.out.trans h2)
  clear h1 h2
  go_wp2_with fail
  go_ret
  exact ⟨_, rfl, H5.out, G5.out⟩
end Va
end Go.Proofs.YtnnlgodgaolkkaaGreatDoor
/- What landed of values: a value's text, put behind others. -/
namespace Go.Proofs.YtnnlgodgaolkkaaGreatDoor
open Go.RowKit
namespace Va
set_option maxRecDepth 100000

/-- How a text tells what is no list, and no map. -/
def plF (k : Nat) (t : Bs) : Bs := if k = 0 then [110, 117, 108, 108] else if k = 3 then Qu.wrq t else t
mutual
theorem teW_te : ∀ x : V, teW plF x = te x
  | .mk k t l ks => by
    rw [teW, te, teWL_te l, plF]
    by_cases h7 : k = 7
    · subst h7; simp
    · by_cases h8 : k = 8
      · subst h8; simp
      · rw [if_neg h7, if_neg h8]
        by_cases h0 : k = 0
        · rw [if_pos h0, if_pos h0]
        · rw [if_neg h0, if_neg h0]
          by_cases h3 : k = 3
          · rw [if_pos h3, if_pos h3]
          · rw [if_neg h3, if_neg h3, if_neg h7, if_neg h8]
theorem teWL_te : ∀ l : List V, teWL plF l = teL l
  | [] => by rw [teWL, teL]
  | x :: r => by rw [teWL, teL, teW_te x, teWL_te r]
end
set_option maxHeartbeats 4000000 in
theorem plainL_any {x : V} {v : Value} {base : Nat} (w : World) (hv : Vm w v x) (hT : TB base w) (hx : wt x ≤ 1000000) :
    Calls Tryz.prog 39 #[v] w fun e w' => e = .returned (.string (txt (plF x.kind x.text))) ∧ Below w.heap.size w w' := by
  obtain ⟨k, t, l, ks⟩ := x
  obtain ⟨A, B, c, d, rfl, _⟩ := hv.inv
  obtain ⟨T, hT'⟩ : ∃ T, T = txt t := ⟨_, rfl⟩
  have CW := Lib.hid (fun (w' : World) (h : Below w.heap.size w w') => by
    have h9 := hT.on (h.mono hT.2.2)
    exact qwrite_any w' hT' (by rw [wt] at hx; omega) h9.1 (Nat.lt_of_lt_of_le h9.2.1 h9.2.2))
  show Calls Tryz.prog 39 #[.agg #[.int .u8 k, .string (txt t), .slice A l.length c, .slice B ks.length d]] w fun e w' => e = .returned (.string (txt (plF k t))) ∧ Below w.heap.size w w'
  obtain ⟨R, hR⟩ : ∃ R, R = txt (plF k t) := ⟨_, rfl⟩
  rw [← hT', ← hR]
  have HT := Lib.hid hT'
  have HR := Lib.hid hR
  clear hv hT' hx hT hR
  by_cases h0 : k = 0
  · subst h0
    have HR2 := Lib.hid (show R = ⟨#[110, 117, 108, 108]⟩ from by rw [HR.out]; rfl)
    go_enter Tryz.func39, Tryz.ntmps39
    go_wp2_with fail
    go_ret
    exact ⟨by rw [HR2.out]; rfl, below_new ..⟩
  · have n0 : ((k : Int) == 0) = false := beq_eq_false_iff_ne.2 (by omega)
    by_cases h3 : k = 3
    · subst h3
      have HR2 := Lib.hid (show R = txt (Qu.wrq t) from by rw [HR.out]; rfl)
      clear n0 h0
      go_enter Tryz.func39, Tryz.ntmps39
      go_wp2_with fail
      refine (CW.out _ (below_new ..)).mono ?_
      rintro e w2 ⟨rfl, hb⟩
      have HB := Lib.hid (below_tr (below_new ..) hb)
      clear hb
      go_wp2_with fail
      go_ret
      exact ⟨by rw [HR2.out]; rfl, HB.out⟩
    · have n3 : ((k : Int) == 3) = false := beq_eq_false_iff_ne.2 (by omega)
      have HR2 := Lib.hid (show R = T from by rw [HR.out, HT.out, plF, if_neg h0, if_neg h3])
      clear h0 h3
      go_enter Tryz.func39, Tryz.ntmps39
      go_wp2_with fail
      go_ret
      exact ⟨by rw [HR2.out]; rfl, below_new ..⟩
end Va
end Go.Proofs.YtnnlgodgaolkkaaGreatDoor
