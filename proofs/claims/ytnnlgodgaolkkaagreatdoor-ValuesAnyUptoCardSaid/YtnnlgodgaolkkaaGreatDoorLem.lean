/- What landed of values: may a value be, over what it asks of keys. -/
import Derived.Test.YtnnlgodgaolkkaaGreatDoorHi
namespace Go.Proofs.YtnnlgodgaolkkaaGreatDoor
open Go.RowKit
namespace Va
set_option maxRecDepth 100000

theorem cell_fst (w : World) (v : Value) (t : TypeId) : (w.alloc (.cells #[v] t)).cell? ⟨w.heap.size, 0, none⟩ = some v := by
  have e := heap_alloc_new w (.cells #[v] t)
  simp only [World.cell?, e]
  rfl
set_option maxHeartbeats 4000000 in
theorem mayF_any {x : V} {v : Value} {b r : Bool} {D E : Int} {q : Nat} (w : World) (hv : Vm w v x) (hq : w.cell? ⟨q, 0, none⟩ = some (.int .i64 D)) (hD : 1 ≤ D) (hD2 : D ≤ 256) (hE : D - 1 = E)
    (CM : ∀ w' : World, Below w.heap.size w w' → Calls Tryz.prog 29 #[v, .int .i64 E] w' fun e w'' => e = .returned (.bool r) ∧ Below w'.heap.size w' w'') :
    Calls Tryz.prog 50 #[.bool b, v, .pointer (some ⟨q, 0, none⟩)] w fun e w' => e = .returned (.bool (b && r)) ∧ Below w.heap.size w w' := by
  have hql := World.block_lt_of_cell? w _ hq
  obtain ⟨k, t, l, ks⟩ := x
  obtain ⟨A, B, c, d, rfl, _⟩ := hv.inv
  obtain ⟨T, hT⟩ : ∃ T, T = txt t := ⟨_, rfl⟩
  rw [← hT] at CM ⊢
  have HC := Lib.hid CM
  clear hv hT CM
  cases b with
  | false =>
    go_enter Tryz.func50, Tryz.ntmps50
    go_wp2_with fail
    go_ret
    exact ⟨by first | rfl | trivial, below_new ..⟩
  | true =>
    go_enter Tryz.func50, Tryz.ntmps50
    go_wp2_with fail
    refine (HC.out _ (below_new ..)).mono ?_
    rintro e w2 ⟨rfl, hb⟩
    have HB := Lib.hid (below_tr (below_new ..) hb)
    clear hb
    go_wp2_with fail
    go_ret
    exact ⟨ret_bool (by simp), HB.out⟩
set_option maxHeartbeats 4000000 in
theorem may_any (HK : KeysC) : ∀ (N : Nat) (x : V), wt x ≤ N → N ≤ 1000000 → ∀ (d : Nat) (w : World) (v : Value), d ≤ 256 → Vm w v x →
    Calls Tryz.prog 29 #[v, .int .i64 d] w fun e w' => e = .returned (.bool (mayD d x)) ∧ Below w.heap.size w w'
  | 0, x, hx, _, _, _, _, _, _ => by have := wt_pos x; omega
  | N + 1, .mk k t l ks, hx, hN, d, w, v, hd9, hv => by
    obtain ⟨R, hR⟩ : ∃ R, R = mayD d (.mk k t l ks) := ⟨_, rfl⟩
    rw [← hR]
    have HR := Lib.hid hR
    have CK := Lib.hid (fun (w' : World) (hb : Below w.heap.size w w') (h : k = 7 ∨ k = 8) => HK w' (hv.on hb) h (by omega))
    obtain ⟨A, B, c, dc, rfl, hk, hl, hc, hA, hd, hd2, hB, hKs, hV⟩ := hv.inv
    have IH := Lib.hid (fun (i : Nat) (x : V) (hi : l[i]? = some x) (d : Nat) (w : World) (v : Value) (h9 : d ≤ 256) (h : Vm w v x) => may_any HK N x (by have := wt_sub (k := k) (t := t) (ks := ks) hi; omega) (by omega) d w v h9 h)
    have hn0 : l.length ≤ 1000000 := by have := wtL_len l; rw [wt] at hx; omega
    have HV := Lib.hid hV
    have CT := Lib.hid (fun (T : ByteArray) (hT : T = txt t) (w' : World) (B C : Value) => mayText_any (k := k) B C w' hT)
    obtain ⟨T, hT⟩ : ∃ T, T = txt t := ⟨_, rfl⟩
    have HTT := Lib.hid hT
    obtain ⟨n, HN⟩ : ∃ n, Hid (n = l.length) := ⟨_, Lib.hid rfl⟩
    obtain ⟨m, HM⟩ : ∃ m, Hid (m = ks.length) := ⟨_, Lib.hid rfl⟩
    rw [← HN.out, ← HM.out, ← hT] at CK
    rw [← HN.out, ← HM.out, ← hT]
    obtain ⟨p, HP⟩ : ∃ p, Hid (p = ptd k) := ⟨_, Lib.hid rfl⟩
    have CP := Lib.hid (parted_is HP.out)
    obtain ⟨mt, HMT⟩ : ∃ mt, Hid (mt = mayT k t) := ⟨_, Lib.hid rfl⟩
    have CT2 := Lib.hid (fun (w' : World) (B C : Value) => by have := CT.out T hT w' B C; rw [← HMT.out] at this; exact this)
    have HLN := Lib.hid hn0
    clear hV hKs hv hx hN hn0 hR CT hT
    obtain ⟨W1, hW1⟩ : ∃ W, W = w.alloc (vO (.int .u8 k) (.string T) (.slice A n c) (.slice B m dc)) := ⟨_, rfl⟩
    obtain ⟨W2, hW2⟩ : ∃ W, W = W1.alloc (.cells #[.int .i64 d] 3) := ⟨_, rfl⟩
    have hb1 : Below w.heap.size w W1 := by rw [hW1]; exact below_new ..
    have hb2 : Below W1.heap.size W1 W2 := by rw [hW2]; exact below_new ..
    have HX := Lib.hid (show Bx W2 w.heap.size (.int .u8 k) (.string T) (.slice A n c) (.slice B m dc) from (show Bx W1 w.heap.size (.int .u8 k) (.string T) (.slice A n c) (.slice B m dc) from by rw [hW1]; exact Bx.new ..).on hb2)
    have hsz : w.heap.size + 1 = W1.heap.size := by rw [hW1]; show _ = (w.heap.push _).size; rw [Array.size_push]
    have HY := Lib.hid (show W2.cell? ⟨W1.heap.size, 0, none⟩ = some (.int .i64 d) from by rw [hW2]; exact cell_fst ..)
    have HB2 := Lib.hid (below_tr hb1 hb2)
    have HW1 := Lib.hid hW1
    have HW2 := Lib.hid hW2
    clear hW1 hW2 hb1 hb2
    go_enter Tryz.func29, Tryz.ntmps29
    go_upto_region 1 with fail
    rw [← HW1.out, ← HW2.out]
    have HZ2 := Lib.hid (show W1.heap.size < W2.heap.size from by rw [HW2.out]; show _ < (W1.heap.push _).size; rw [Array.size_push]; omega)
    obtain ⟨h2, hh2⟩ : ∃ h2, h2 = W1.heap.size := ⟨_, rfl⟩
    rw [← hh2] at HY HZ2 ⊢
    obtain ⟨h, hh⟩ : ∃ h, h = w.heap.size := ⟨_, rfl⟩
    rw [← hh] at HX ⊢
    clear HW1 HW2 hh hsz hh2
    obtain ⟨x0, x1, x2, x3⟩ : W2.cell? ⟨h, 0, none⟩ = some (.int .u8 k) ∧ W2.cell? ⟨h, 1, none⟩ = some (.string T) ∧ W2.cell? ⟨h, 2, none⟩ = some (.slice A n c) ∧ W2.cell? ⟨h, 3, none⟩ = some (.slice B m dc) := ⟨HX.out.c0, HX.out.c1, HX.out.c2, HX.out.c3⟩
    have y0 := HY.out
    go_wp2_with fail
    refine (CP.out _).mono ?_
    rintro e w3 ⟨rfl, rfl⟩
    cases p with
    | false =>
      have HL := Lib.hid (show R = (decide (n = 0) && decide (m = 0) && mt) from by rw [HR.out, mayD_leaf HP.out.symm, HN.out, HM.out, HMT.out])
      clear CK IH HV y0
      by_cases h0 : n = 0
      · subst h0
        by_cases h1 : m = 0
        · subst h1
          have HL2 := Lib.hid (show R = mt from by rw [HL.out]; simp)
          go_wp2_with fail
          refine (CT2.out _ _ _).mono ?_
          rintro e w4 ⟨rfl, hb⟩
          have HB4 := Lib.hid (below_tr HB2.out hb)
          clear hb
          go_wp2_with fail
          go_ret
          exact ⟨ret_bool HL2.out.symm, HB4.out⟩
        · have HL2 := Lib.hid (show R = false from by rw [HL.out]; simp [h1])
          have f1 : ((m : Int) == 0) = false := beq_eq_false_iff_ne.2 (by omega)
          go_wp2_with fail
          go_ret
          exact ⟨ret_bool HL2.out.symm, HB2.out⟩
      · have HL2 := Lib.hid (show R = false from by rw [HL.out]; simp [h0])
        have f1 : ((n : Int) == 0) = false := beq_eq_false_iff_ne.2 (by omega)
        go_wp2_with fail
        go_ret
        exact ⟨ret_bool HL2.out.symm, HB2.out⟩
    | true =>
      have HL := Lib.hid (show R = (decide (d ≠ 0) && decide (t = []) && decide ((k = 7 → ks = []) ∧ (k = 8 → ks.length = l.length ∧ ks.Nodup)) && (decide (dpL l ≤ d - 1) && plL l)) from by rw [HR.out, mayD_part HP.out.symm])
      have HK7 := Lib.hid (show k = 7 ∨ k = 8 from of_decide_eq_true HP.out.symm)
      by_cases h0 : d = 0
      · subst h0
        have HL2 := Lib.hid (show R = false from by rw [HL.out]; simp)
        go_wp2_with fail
        go_ret
        exact ⟨ret_bool HL2.out.symm, HB2.out⟩
      have g0 : ((d : Int) == 0) = false := beq_eq_false_iff_ne.2 (by omega)
      by_cases ht : t = []
      case neg =>
        have HL2 := Lib.hid (show R = false from by rw [HL.out]; simp [ht])
        obtain ⟨f1, f2, f3⟩ := nonempty HTT.out ht
        clear ht
        go_wp2_with fail
        go_ret
        exact ⟨ret_bool HL2.out.symm, HB2.out⟩
      obtain rfl : T = ⟨#[]⟩ := by rw [HTT.out, ht]; rfl
      obtain ⟨kb, HKB⟩ : ∃ kb, Hid (kb = decide ((k = 7 → ks = []) ∧ (k = 8 → m = n ∧ ks.Nodup))) := ⟨_, Lib.hid rfl⟩
      have CK2 := Lib.hid (by have := CK.out W2 HB2.out HK7.out; rw [← HKB.out] at this; exact this)
      have HL3 := Lib.hid (show R = (kb && (decide (dpL l ≤ d - 1) && plL l)) from by rw [HL.out, decide_eq_true h0, decide_eq_true ht, HKB.out, HN.out, HM.out]; simp)
      clear ht CK
      go_wp2_with fail
      refine CK2.out.mono ?_
      rintro e w4 ⟨rfl, hb⟩
      have HB4 := Lib.hid (below_tr HB2.out hb)
      have X := HX.out.on hb
      have z2 := X.c2
      have HQ4 := Lib.hid (cell_old hb HZ2.out HY.out)
      have HV4 := Lib.hid (HV.out.on (below_tr HB2.out hb))
      clear hb X x0 x1 x2 x3 y0
      cases kb with
      | false =>
        have HL2 := Lib.hid (show R = false from by rw [HL3.out]; rfl)
        go_wp2_with fail
        go_ret
        exact ⟨ret_bool HL2.out.symm, HB4.out⟩
      | true =>
        obtain ⟨E, HEE⟩ : ∃ E : Nat, Hid (d = E + 1) := ⟨d - 1, Lib.hid (by omega)⟩
        have CO := Lib.hid (overB_any (l := l) (A := A) (c := c) (b0 := true) (fun b x => b && mayD E x) (fun _ _ => True) h2 w4 HV4.out HLN.out trivial (fun _ _ _ _ _ => trivial) (fun i x v w' b hi _ hv hb =>
          mayF_any w' hv (cell_old hb (World.block_lt_of_cell? _ _ HQ4.out) HQ4.out) (E := (E : Int)) (by have := HEE.out; omega) (by omega) (by have := HEE.out; omega) (fun w'' hb2 => IH.out i x hi E w'' v (by have := HEE.out; omega) (hv.on hb2))))
        have HL2 := Lib.hid (show l.foldl (fun b x => b && mayD E x) true = R from by rw [mayD_list, HL3.out, show d - 1 = E from by have := HEE.out; omega])
        rw [HL2.out, ← HN.out] at CO
        clear IH
        go_wp2_with fail
        refine CO.out.mono ?_
        rintro e w5 ⟨rfl, hb⟩
        have HB5 := Lib.hid (below_tr HB4.out hb)
        clear hb
        go_wp2_with fail
        go_ret
        exact ⟨by first | rfl | trivial, HB5.out⟩
end Va
end Go.Proofs.YtnnlgodgaolkkaaGreatDoor
