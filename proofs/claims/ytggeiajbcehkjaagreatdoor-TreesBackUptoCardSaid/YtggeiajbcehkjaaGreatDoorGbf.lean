/- What landed of values: May, Same, Cmp, Size, Deep, Text. -/
import Derived.Test.YtggeiajbcehkjaaGreatDoorGba
import Derived.Test.YtggeiajbcehkjaaGreatDoorGbc
import Derived.Test.YtggeiajbcehkjaaGreatDoorGbd
import Derived.Test.YtggeiajbcehkjaaGreatDoorGbe
import Derived.Test.YtggeiajbcehkjaaGreatDoorGax
import Derived.Test.YtggeiajbcehkjaaGreatDoorGay
import Derived.Lib.AppendStr
import Derived.Test.YtggeiajbcehkjaaGreatDoorGbb
import Derived.Test.YtggeiajbcehkjaaGreatDoorGaz
import Derived.Test.YtggeiajbcehkjaaGreatDoorGak
import Derived.OwnWalk
namespace Go.Proofs.YtggeiajbcehkjaaGreatDoor
open Go.RowKit
namespace Va
set_option maxRecDepth 100000

theorem mayD_may (x : V) : mayD 256 x = may x := rfl
theorem lmay_any {x : V} {v : Value} (w : World) (hv : Vm w v x) (hx : wt x ≤ 1000000) : Calls Tryz.prog 30 #[v] w fun e w' => e = .returned (.bool (may x)) ∧ Below w.heap.size w w' := by
  have CM := Lib.hid (fun (w' : World) (hb : Below w.heap.size w w') => may_any mayKeys_any 1000000 x hx (Nat.le_refl _) 256 w' v (by omega) (hv.on hb))
  obtain ⟨R, hR⟩ : ∃ R, R = may x := ⟨_, rfl⟩
  rw [mayD_may, ← hR] at CM
  rw [← hR]
  obtain ⟨k, t, l, ks⟩ := x
  obtain ⟨A, B, c, d, rfl, _⟩ := hv.inv
  obtain ⟨T, hT⟩ : ∃ T, T = txt t := ⟨_, rfl⟩
  rw [← hT] at CM ⊢
  clear hv hT hx hR
  go_enter Tryz.func30, Tryz.ntmps30
  go_wp2_with fail
  refine (CM.out _ (below_new ..)).mono ?_
  rintro e w2 ⟨rfl, hb⟩
  have HB := Lib.hid (below_tr (below_new ..) hb)
  clear hb
  go_wp2_with fail
  go_ret
  exact ⟨by first | rfl | trivial, HB.out⟩
theorem same_sm {x y : V} : sm x y = decide (fV x y = .eq) := by unfold sm fV; cases cmpV (can x) (can y) <;> rfl
set_option maxHeartbeats 4000000 in
theorem lsame_any {x y : V} {v u : Value} (w : World) (hv : Vm w v x) (hu : Vm w u y) (hx : wt x ≤ 1000000) (hy : wt y ≤ 1000000) :
    Calls Tryz.prog 34 #[v, u] w fun e w' => e = .returned (.bool (may x && may y && sm x y)) ∧ Below w.heap.size w w' := by
  have CX := Lib.hid (fun (w' : World) (hb : Below w.heap.size w w') => lmay_any w' (hv.on hb) hx)
  have CY := Lib.hid (fun (w' : World) (hb : Below w.heap.size w w') => lmay_any w' (hu.on hb) hy)
  have CO := Lib.hid (fun (w' : World) (hb : Below w.heap.size w w') (h1 : may x = true) (h2 : may y = true) => order_any 1000000 x y hx (Nat.le_refl _) hy h1 h2 w' v u (hv.on hb) (hu.on hb))
  obtain ⟨p, HP⟩ : ∃ p, Hid (p = may x) := ⟨_, Lib.hid rfl⟩
  obtain ⟨q, HQ⟩ : ∃ q, Hid (q = may y) := ⟨_, Lib.hid rfl⟩
  obtain ⟨z, HZ⟩ : ∃ z, Hid (z = fV x y) := ⟨_, Lib.hid rfl⟩
  rw [same_sm, ← HP.out, ← HQ.out, ← HZ.out]
  rw [← HP.out] at CX CO
  rw [← HQ.out] at CY CO
  rw [← HZ.out] at CO
  obtain ⟨k, t, l, ks⟩ := x
  obtain ⟨k', t', l', ks'⟩ := y
  obtain ⟨A, B, c, d, rfl, _⟩ := hv.inv
  obtain ⟨A', B', c', d', rfl, _⟩ := hu.inv
  obtain ⟨T, hT⟩ : ∃ T, T = txt t := ⟨_, rfl⟩
  obtain ⟨T', hT'⟩ : ∃ T, T = txt t' := ⟨_, rfl⟩
  obtain ⟨n, hn⟩ : ∃ n, n = l.length := ⟨_, rfl⟩
  obtain ⟨m, hm⟩ : ∃ n, n = ks.length := ⟨_, rfl⟩
  obtain ⟨n', hn'⟩ : ∃ n, n = l'.length := ⟨_, rfl⟩
  obtain ⟨m', hm'⟩ : ∃ n, n = ks'.length := ⟨_, rfl⟩
  rw [← hT, ← hn, ← hm] at CX CO ⊢
  rw [← hT', ← hn', ← hm'] at CY CO ⊢
  clear hv hu hT hT' hn hm hn' hm' hx hy HP HQ HZ
  obtain ⟨W1, hW1⟩ : ∃ W, W = w.alloc (vO (.int .u8 k) (.string T) (.slice A n c) (.slice B m d)) := ⟨_, rfl⟩
  obtain ⟨W2, hW2⟩ : ∃ W, W = W1.alloc (vO (.int .u8 k') (.string T') (.slice A' n' c') (.slice B' m' d')) := ⟨_, rfl⟩
  have hb1 : Below w.heap.size w W1 := by rw [hW1]; exact below_new ..
  have hb2 : Below W1.heap.size W1 W2 := by rw [hW2]; exact below_new ..
  have HX := Lib.hid (show Bx W2 w.heap.size (.int .u8 k) (.string T) (.slice A n c) (.slice B m d) from (show Bx W1 w.heap.size (.int .u8 k) (.string T) (.slice A n c) (.slice B m d) from by rw [hW1]; exact Bx.new ..).on hb2)
  have HY := Lib.hid (show Bx W2 W1.heap.size (.int .u8 k') (.string T') (.slice A' n' c') (.slice B' m' d') from by rw [hW2]; exact Bx.new ..)
  have hsz : w.heap.size + 1 = W1.heap.size := by rw [hW1]; show _ = (w.heap.push _).size; rw [Array.size_push]
  have HB2 := Lib.hid (below_tr hb1 hb2)
  have HW1 := Lib.hid hW1
  have HW2 := Lib.hid hW2
  clear hW1 hW2 hb1 hb2
  go_enter Tryz.func34, Tryz.ntmps34
  go_upto_region 1 with fail
  rw [← HW1.out, ← HW2.out]
  obtain ⟨h2, hh2⟩ : ∃ h2, h2 = W1.heap.size := ⟨_, rfl⟩
  rw [← hh2] at HY ⊢
  obtain ⟨h, hh⟩ : ∃ h, h = w.heap.size := ⟨_, rfl⟩
  rw [← hh] at HX ⊢
  clear HW1 HW2 hh hsz hh2
  obtain ⟨x0, x1, x2, x3⟩ : W2.cell? ⟨h, 0, none⟩ = some (.int .u8 k) ∧ W2.cell? ⟨h, 1, none⟩ = some (.string T) ∧ W2.cell? ⟨h, 2, none⟩ = some (.slice A n c) ∧ W2.cell? ⟨h, 3, none⟩ = some (.slice B m d) := ⟨HX.out.c0, HX.out.c1, HX.out.c2, HX.out.c3⟩
  go_wp2_with fail
  refine (CX.out _ HB2.out).mono ?_
  rintro e w3 ⟨rfl, hb⟩
  have HB3 := Lib.hid (below_tr HB2.out hb)
  have HX3 := Lib.hid (HX.out.on hb)
  have HY3 := Lib.hid (HY.out.on hb)
  clear hb x0 x1 x2 x3
  cases p with
  | false =>
    go_wp2_with fail
    go_ret
    exact ⟨ret_bool (by simp), HB3.out⟩
  | true =>
    obtain ⟨y0, y1, y2, y3⟩ : w3.cell? ⟨h2, 0, none⟩ = some (.int .u8 k') ∧ w3.cell? ⟨h2, 1, none⟩ = some (.string T') ∧ w3.cell? ⟨h2, 2, none⟩ = some (.slice A' n' c') ∧ w3.cell? ⟨h2, 3, none⟩ = some (.slice B' m' d') := ⟨HY3.out.c0, HY3.out.c1, HY3.out.c2, HY3.out.c3⟩
    go_wp2_with fail
    refine (CY.out _ HB3.out).mono ?_
    rintro e w4 ⟨rfl, hb⟩
    have HB4 := Lib.hid (below_tr HB3.out hb)
    have HX4 := Lib.hid (HX3.out.on hb)
    have HY4 := Lib.hid (HY3.out.on hb)
    clear hb y0 y1 y2 y3
    cases q with
    | false =>
      go_wp2_with fail
      go_ret
      exact ⟨ret_bool (by simp), HB4.out⟩
    | true =>
      have CO2 := Lib.hid (CO.out w4 HB4.out (by first | rfl | trivial) (by first | rfl | trivial))
      obtain ⟨x0, x1, x2, x3⟩ : w4.cell? ⟨h, 0, none⟩ = some (.int .u8 k) ∧ w4.cell? ⟨h, 1, none⟩ = some (.string T) ∧ w4.cell? ⟨h, 2, none⟩ = some (.slice A n c) ∧ w4.cell? ⟨h, 3, none⟩ = some (.slice B m d) := ⟨HX4.out.c0, HX4.out.c1, HX4.out.c2, HX4.out.c3⟩
      obtain ⟨y0, y1, y2, y3⟩ : w4.cell? ⟨h2, 0, none⟩ = some (.int .u8 k') ∧ w4.cell? ⟨h2, 1, none⟩ = some (.string T') ∧ w4.cell? ⟨h2, 2, none⟩ = some (.slice A' n' c') ∧ w4.cell? ⟨h2, 3, none⟩ = some (.slice B' m' d') := ⟨HY4.out.c0, HY4.out.c1, HY4.out.c2, HY4.out.c3⟩
      clear CO
      go_wp2_with fail
      refine CO2.out.mono ?_
      rintro e w5 ⟨rfl, hb⟩
      have HB5 := Lib.hid (below_tr HB4.out hb)
      clear hb x0 x1 x2 x3 y0 y1 y2 y3 CO2
      cases z with
      | lt =>
        simp only [oN]
        go_wp2_with fail
        go_ret
        exact ⟨by first | rfl | trivial, HB5.out⟩
      | eq =>
        simp only [oN]
        go_wp2_with fail
        go_ret
        exact ⟨by first | rfl | trivial, HB5.out⟩
      | gt =>
        simp only [oN]
        go_wp2_with fail
        go_ret
        exact ⟨by first | rfl | trivial, HB5.out⟩
set_option maxHeartbeats 4000000 in
/-- What is asked of a value that may be. -/
theorem askI_any {x : V} {v : Value} {g : FuncId} {R : Nat} (hg : g = 49) (w : World) (hv : Vm w v x) (hx : wt x ≤ 1000000)
    (C : ∀ w' : World, Below w.heap.size w w' → Calls Tryz.prog g #[v] w' fun e w'' => e = .returned (.int .i64 (R : Nat)) ∧ Below w'.heap.size w' w'') :
    Calls Tryz.prog 48 #[v, .func (.func g) #[] #[]] w fun e w' => e = .returned (.int .i64 (iM (may x) R)) ∧ Below w.heap.size w w' := by
  have CM := Lib.hid (fun (w' : World) (hb : Below w.heap.size w w') => lmay_any w' (hv.on hb) hx)
  obtain ⟨p, HP⟩ : ∃ p, Hid (p = may x) := ⟨_, Lib.hid rfl⟩
  rw [← HP.out] at CM ⊢
  have HC := Lib.hid C
  obtain ⟨k, t, l, ks⟩ := x
  obtain ⟨A, B, c, d, rfl, _⟩ := hv.inv
  obtain ⟨T, hT⟩ : ∃ T, T = txt t := ⟨_, rfl⟩
  obtain ⟨n, hn⟩ : ∃ n, n = l.length := ⟨_, rfl⟩
  obtain ⟨m, hm⟩ : ∃ n, n = ks.length := ⟨_, rfl⟩
  rw [← hT, ← hn, ← hm] at CM HC ⊢
  clear hv hT hn hm hx HP C
  obtain ⟨W1, hW1⟩ : ∃ W, W = w.alloc (vO (.int .u8 k) (.string T) (.slice A n c) (.slice B m d)) := ⟨_, rfl⟩
  have hb1 : Below w.heap.size w W1 := by rw [hW1]; exact below_new ..
  have HX := Lib.hid (show Bx W1 w.heap.size (.int .u8 k) (.string T) (.slice A n c) (.slice B m d) from by rw [hW1]; exact Bx.new ..)
  have HB1 := Lib.hid hb1
  have HW1 := Lib.hid hW1
  clear hb1 hW1
  subst hg
  · go_enter Tryz.func48, Tryz.ntmps48
    go_upto_region 1 with fail
    rw [← HW1.out]
    obtain ⟨h, hh⟩ : ∃ h, h = w.heap.size := ⟨_, rfl⟩
    rw [← hh] at HX ⊢
    clear HW1 hh
    obtain ⟨x0, x1, x2, x3⟩ : W1.cell? ⟨h, 0, none⟩ = some (.int .u8 k) ∧ W1.cell? ⟨h, 1, none⟩ = some (.string T) ∧ W1.cell? ⟨h, 2, none⟩ = some (.slice A n c) ∧ W1.cell? ⟨h, 3, none⟩ = some (.slice B m d) := ⟨HX.out.c0, HX.out.c1, HX.out.c2, HX.out.c3⟩
    go_wp2_with fail
    refine (CM.out _ HB1.out).mono ?_
    rintro e w3 ⟨rfl, hb⟩
    have HB3 := Lib.hid (below_tr HB1.out hb)
    have HX3 := Lib.hid (HX.out.on hb)
    clear hb x0 x1 x2 x3
    cases p with
    | false =>
      go_wp2_with fail
      go_ret
      exact ⟨by first | rfl | trivial, HB3.out⟩
    | true =>
      obtain ⟨x0, x1, x2, x3⟩ : w3.cell? ⟨h, 0, none⟩ = some (.int .u8 k) ∧ w3.cell? ⟨h, 1, none⟩ = some (.string T) ∧ w3.cell? ⟨h, 2, none⟩ = some (.slice A n c) ∧ w3.cell? ⟨h, 3, none⟩ = some (.slice B m d) := ⟨HX3.out.c0, HX3.out.c1, HX3.out.c2, HX3.out.c3⟩
      go_wp2_with fail
      refine (HC.out _ HB3.out).mono ?_
      rintro e w4 ⟨rfl, hb⟩
      have HB4 := Lib.hid (below_tr HB3.out hb)
      clear hb x0 x1 x2 x3
      go_wp2_with fail
      go_ret
      exact ⟨by first | rfl | trivial, HB4.out⟩
theorem lsize_any {x : V} {v : Value} (w : World) (hv : Vm w v x) (hx : wt x ≤ 1000000) : Calls Tryz.prog 31 #[v] w fun e w' => e = .returned (.int .i64 (iM (may x) (sz x))) ∧ Below w.heap.size w w' := by
  have CA := Lib.hid (fun (w' : World) (hb : Below w.heap.size w w') => askI_any rfl w' (hv.on hb) hx (fun w2 hb2 => size_any 1000000 x hx (Nat.le_refl _) w2 v ((hv.on hb).on hb2)))
  obtain ⟨R, hR⟩ : ∃ R, R = iM (may x) (sz x) := ⟨_, rfl⟩
  rw [← hR] at CA ⊢
  obtain ⟨k, t, l, ks⟩ := x
  obtain ⟨A, B, c, d, rfl, _⟩ := hv.inv
  obtain ⟨T, hT⟩ : ∃ T, T = txt t := ⟨_, rfl⟩
  rw [← hT] at CA ⊢
  clear hv hT hx hR
  go_enter Tryz.func31, Tryz.ntmps31
  go_wp2_with fail
  refine (CA.out _ (below_new ..)).mono ?_
  rintro e w2 ⟨rfl, hb⟩
  have HB := Lib.hid (below_tr (below_new ..) hb)
  clear hb
  go_wp2_with fail
  go_ret
  exact ⟨by first | rfl | trivial, HB.out⟩
end Va
end Go.Proofs.YtggeiajbcehkjaaGreatDoor
/- Bytes that a call appends to a row of its own, from call to call: where the row lies, and what is left as it was. -/
namespace Go.Proofs.YtggeiajbcehkjaaGreatDoor
open Go.RowKit
namespace Va
set_option maxRecDepth 100000

/-- Between two worlds nothing that was there has turned but one's own row; which may lie anew. -/
structure BG (w w' : World) (b b' : Value) : Prop where
  os : w'.os = w.os
  tape : w'.tape = w.tape
  output : w'.output = w.output
  size : w.heap.size ≤ w'.heap.size
  block : ∀ k, k < w.heap.size → some k ≠ b.ownBlock → w'.heap[k]? = w.heap[k]?
  own : b'.ownBlock = b.ownBlock ∨ ∀ k, b'.ownBlock = some k → w.heap.size ≤ k
theorem BG.refl (w : World) (b : Value) : BG w w b b := ⟨rfl, rfl, rfl, Nat.le_refl _, fun _ _ _ => rfl, .inl rfl⟩
theorem BG.trans {w w1 w2 : World} {b b1 b2 : Value} (h : BG w w1 b b1) (h' : BG w1 w2 b1 b2) : BG w w2 b b2 := by
  refine ⟨h'.os.trans h.os, h'.tape.trans h.tape, h'.output.trans h.output, Nat.le_trans h.size h'.size, fun k hk hn => ?_, ?_⟩
  · refine (h'.block k (Nat.lt_of_lt_of_le hk h.size) ?_).trans (h.block k hk hn)
    rcases h.own with e | e
    · rw [e]; exact hn
    · intro e2; have := e k e2.symm; omega
  · rcases h'.own with e | e
    · rcases h.own with e2 | e2
      · exact .inl (e.trans e2)
      · exact .inr fun k hk => e2 k (by rw [← e]; exact hk)
    · exact .inr fun k hk => Nat.le_trans h.size (e k hk)
theorem BG.call {w w' : World} (b : Value) (h : Below w.heap.size w w') : BG w w' b b := ⟨h.os, h.tape, h.output, h.size, fun k hk _ => h.block k hk, .inl rfl⟩
theorem BG.below {w w' : World} {b b' : Value} {base : Nat} (h : BG w w' b b') (hb : ∀ k, b.ownBlock = some k → base ≤ k) (hs : base ≤ w.heap.size) : Below base w w' :=
  ⟨h.os, h.tape, h.output, h.size, fun k hk => h.block k (by omega) fun e => by have := hb k e.symm; omega⟩
/-- A row of bytes of one's own. -/
def BW (base : Nat) (w : World) (b : Value) (t : Bs) : Prop := w.ownsRow base 5 1 b t.length (bytV t) ∧ base ≤ w.heap.size
theorem BW.base {base : Nat} {w : World} {b : Value} {t : Bs} (h : BW base w b t) : ∀ k, b.ownBlock = some k → base ≤ k := fun k hk => (h.1.lt k hk).1
theorem BW.on {base : Nat} {w w' : World} {b : Value} {t : Bs} (h : BW base w b t) (hb : Below w.heap.size w w') : BW base w' b t :=
  ⟨own_on h.1 fun k hk => hb.block k (h.1.lt k hk).2, Nat.le_trans h.2 hb.size⟩
theorem BW.below {base : Nat} {w w' : World} {b b' : Value} {t : Bs} (h : BW base w b t) (hg : BG w w' b b') : Below base w w' := hg.below h.base h.2
theorem BW.nil (w : World) : BW w.heap.size w (.slice none 0 0) [] := ⟨World.ownsRow_nil _ _ _ 1, Nat.le_refl _⟩
theorem BW.more {base : Nat} {w w' : World} {b b' : Value} {t u : Bs} (h : BW base w b t) (ho : w'.ownsRow base 5 1 b' (t.length + u.length) (bytV t ++ bytV u)) (hs : w.heap.size ≤ w'.heap.size) : BW base w' b' (t ++ u) := by
  refine ⟨?_, Nat.le_trans h.2 hs⟩
  rw [List.length_append, show bytV (t ++ u) = bytV t ++ bytV u by simp [bytV]]
  exact ho
section
variable {P : Program} (w : World)
end
end Va
end Go.Proofs.YtggeiajbcehkjaaGreatDoor
/- What landed of values: texts, their parts behind one another. -/
namespace Go.Proofs.YtggeiajbcehkjaaGreatDoor
open Go.RowKit
namespace Va
set_option maxRecDepth 100000

/-- The tables that texts stand on lie ahead of the call's own. -/
def TB (base : Nat) (w : World) : Prop := Shorts w ∧ 1 < base ∧ base ≤ w.heap.size
theorem TB.on {base : Nat} {w w' : World} (h : TB base w) (hb : Below base w w') : TB base w' := by
  obtain ⟨⟨h0, h1, h2, h3, h4, h5, h6, h7, h8, h9, h10, h11, h12, h13, h14, h15⟩, hz, hs⟩ := h
  have e : ∀ (i : Nat) (v : Value), w.cell? ⟨1, i, none⟩ = some v → w'.cell? ⟨1, i, none⟩ = some v := fun i v hv => (hb.cell (p := ⟨1, i, none⟩) hz).trans hv
  exact ⟨⟨e _ _ h0, e _ _ h1, e _ _ h2, e _ _ h3, e _ _ h4, e _ _ h5, e _ _ h6, e _ _ h7, e _ _ h8, e _ _ h9, e _ _ h10, e _ _ h11, e _ _ h12, e _ _ h13, e _ _ h14, e _ _ h15⟩, hz, Nat.le_trans hs hb.size⟩
/-- A value that lies ahead of the call's own. -/
abbrev Vb (base : Nat) (w : World) (v : Value) (x : V) : Prop := Vk w (fun g => g < base) v x
theorem Vb.on {base : Nat} {w w' : World} {v : Value} {x : V} (h : Vb base w v x) (hb : Below base w w') : Vb base w' v x := h.keep (fun g hg _ => hb.block g hg) hb.size
/-- A row of values, and one of entries, that lie so. -/
def Vrb (base : Nat) (w : World) (A : Option Addr) (l : List V) : Prop := 0 < l.length → ∃ g o, A = some ⟨g, o, none⟩ ∧ g < base ∧ ∀ i x, l[i]? = some x → ∃ v0 v1 v2 v3, w.cell? ⟨g, o + i * 4, none⟩ = some v0 ∧ w.cell? ⟨g, o + i * 4 + 1, none⟩ = some v1 ∧ w.cell? ⟨g, o + i * 4 + 2, none⟩ = some v2 ∧ w.cell? ⟨g, o + i * 4 + 3, none⟩ = some v3 ∧ Vb base w (.agg #[v0, v1, v2, v3]) x
theorem Vb.inv {base : Nat} {w : World} {v : Value} {k : Nat} {t : Bs} {l : List V} {ks : List Bs} (h : Vb base w v (.mk k t l ks)) : ∃ A B c d, v = .agg #[.int .u8 k, .string (txt t), .slice A l.length c, .slice B ks.length d] ∧ k < 256 ∧ Vrb base w A l := by
  cases h with
  | mk _ _ _ _ A B c d f hk hl hc hA hd hd2 hB hK hL ha _ hV =>
    refine ⟨A, B, c, d, rfl, hk, fun h0 => ?_⟩
    obtain ⟨g, o, e, hg, hf⟩ := hL h0
    exact ⟨g, o, e, ha h0 g o e, fun i x hx => ⟨_, _, _, _, hf i (List.getElem?_eq_some_iff.1 hx).1 0 (by decide), hf i (List.getElem?_eq_some_iff.1 hx).1 1 (by decide), hf i (List.getElem?_eq_some_iff.1 hx).1 2 (by decide), hf i (List.getElem?_eq_some_iff.1 hx).1 3 (by decide), hV i x hx⟩⟩
theorem Vrb.on {base : Nat} {w w' : World} {A : Option Addr} {l : List V} (h : Vrb base w A l) (hb : Below base w w') : Vrb base w' A l := fun h0 => by
  obtain ⟨g, o, e, hg, hf⟩ := h h0
  exact ⟨g, o, e, hg, fun i x hx => by
    obtain ⟨v0, v1, v2, v3, h0, h1, h2, h3, hv⟩ := hf i x hx
    have e9 : ∀ {k : Nat} {v : Value}, w.cell? ⟨g, k, none⟩ = some v → w'.cell? ⟨g, k, none⟩ = some v := fun h => (hb.cell (p := ⟨g, _, none⟩) hg).trans h
    exact ⟨v0, v1, v2, v3, e9 h0, e9 h1, e9 h2, e9 h3, hv.keep (fun g hg _ => hb.block g hg) hb.size⟩⟩
end Va
end Go.Proofs.YtggeiajbcehkjaaGreatDoor
/- What landed of values: texts of entries, and the ends of lists and maps. -/
namespace Go.Proofs.YtggeiajbcehkjaaGreatDoor
open Go.RowKit
namespace Va
set_option maxRecDepth 100000

theorem row_ne {base : Nat} {w : World} {b : Value} {t : Bs} {g : Nat} (h : BW base w b t) (hg : ∃ cur, w.heap[g]? = some (.cells cur 127 (0, 0))) : some g ≠ b.ownBlock := by
  obtain ⟨cur, hg⟩ := hg
  intro e
  rcases h.1.2 with ⟨rfl, _⟩ | ⟨g', c, cur', rfl, _, hg', _⟩
  · cases e
  · have e : g = g' := by simpa [Value.ownBlock] using e
    subst e
    rw [hg] at hg'
    have := Option.some.inj hg'
    injection this with _ e2 _
    exact absurd e2 (by decide)
theorem cell_fst1 (w : World) (v : Value) (t : TypeId) : (w.alloc (.cells #[v] t)).cell? ⟨w.heap.size, 0, none⟩ = some v := by
  have e := heap_alloc_new w (.cells #[v] t)
  simp only [World.cell?, e]
  rfl
/-- What is said of a row holds of each of its cuts. -/
theorem BG.same {w w' : World} {b c b' : Value} (h : BG w w' b b') (e : b.ownBlock = c.ownBlock) : BG w w' c b' := ⟨h.os, h.tape, h.output, h.size, fun k hk hn => h.block k hk (by rw [e]; exact hn), by rw [← e]; exact h.own⟩
theorem Er.bg {base : Nat} {w w' : World} {b b' : Value} {t : Bs} {A : Option Addr} {E : List (Bs × V)} (h : Er w (fun g => g < base) A E) (hb : BW base w b t) (hg : BG w w' b b') : Er w' (fun g => g < base) A E := fun h0 => by
  obtain ⟨g, o, e, hr, hf⟩ := h h0
  have hs := hg.block g (lt_of_row hr) (row_ne hb hr)
  refine ⟨g, o, e, by obtain ⟨cur, hr⟩ := hr; exact ⟨cur, hs.trans hr⟩, fun i s x hx => ?_⟩
  obtain ⟨e1, h1, h2, h3⟩ := hf i s x hx
  exact ⟨e1, h1, Vb.on h2 (hb.below hg), fun j u hj => cell_eq hs (h3 j u hj)⟩
end Va
end Go.Proofs.YtggeiajbcehkjaaGreatDoor
/- What landed of values: a copy of texts. -/
namespace Go.Proofs.YtggeiajbcehkjaaGreatDoor
open Go.RowKit
namespace Va
set_option maxRecDepth 100000

theorem clone_any {s : ByteArray} (w : World) (h : s.size ≤ 1000000) : Calls Tryz.prog 54 #[.string s] w fun e w' => e = .returned (.string s) ∧ Below w.heap.size w w' := by
  have C := Lib.hid (Tryz.stringslite_Clone s w (by omega))
  go_enter Tryz.func54, Tryz.ntmps54
  go_wp2_with fail
  refine C.out.mono ?_
  rintro e w2 ⟨rfl, hb⟩
  go_wp2_with fail
  go_ret
  exact ⟨rfl, hb⟩
theorem gb_tr {w w1 w2 : World} {g : Nat} (h : w.grownBy w1 (some g)) (h' : w1.grownBy w2 (some g)) : w.grownBy w2 (some g) :=
  ⟨h'.os.trans h.os, h'.tape.trans h.tape, h'.output.trans h.output, Nat.le_trans h.size h'.size, fun k hk hn => (h'.block k (Nat.lt_of_lt_of_le hk h.size) hn).trans (h.block k hk hn)⟩
theorem gb_call {w w' : World} (g : Nat) (h : Below w.heap.size w w') : w.grownBy w' (some g) := ⟨h.os, h.tape, h.output, h.size, fun k hk _ => h.block k hk⟩
theorem gb_below {w w' : World} {g b : Nat} (h : w.grownBy w' (some g)) (hg : b ≤ g) (hb : b ≤ w.heap.size) : Below b w w' := ⟨h.os, h.tape, h.output, h.size, fun k hk => h.block k (by omega) (by simp; omega)⟩
/-- A row of texts of one's own, under way. -/
def RT (base : Nat) (w : World) (g n : Nat) (L : List Bs) : Prop := w.ownsRow base 9 1 (.slice (some ⟨g, 0, none⟩) L.length n) L.length (L.map fun t => .string (txt t))
theorem RT.on {base : Nat} {w w' : World} {g n : Nat} {L : List Bs} (h : RT base w g n L) (hb : Below w.heap.size w w') : RT base w' g n L := own_on h fun k hk => hb.block k (h.lt k hk).2
end Va
end Go.Proofs.YtggeiajbcehkjaaGreatDoor
/- What landed of values: a copy of a row of texts; a copy of values, one by one. -/
namespace Go.Proofs.YtggeiajbcehkjaaGreatDoor
open Go.RowKit
namespace Va
set_option maxRecDepth 100000

theorem nilV_eq (w : World) : Sem.run Tryz.prog (binOp .eql 30 (.slice none 0 0) (.slice none 0 0)) w = .ok (.bool true) w := by kernel_rfl
theorem nilV_ne (w : World) (ad : Addr) (n c : Nat) : Sem.run Tryz.prog (binOp .eql 30 (.slice (some ad) n c) (.slice none 0 0)) w = .ok (.bool false) w := by kernel_rfl
/-- A row of texts of one's own, or none. -/
def TxO (lo : Nat) (w : World) (R : Option Addr) (c : Nat) (ks : List Bs) : Prop := (R = none ∧ ks = [] ∧ c = 0) ∨ ∃ g, R = some ⟨g, 0, none⟩ ∧ c = ks.length ∧ RT lo w g ks.length ks
end Va
end Go.Proofs.YtggeiajbcehkjaaGreatDoor
/- What landed of values: a copy of values, one by one. -/
namespace Go.Proofs.YtggeiajbcehkjaaGreatDoor
open Go.RowKit
namespace Va
set_option maxRecDepth 100000

/-- A copy of a value, in blocks of its own. -/
def CP (N lo : Nat) (w : World) (u : Value) (x : V) : Prop := ∃ ok : Nat → Prop, Vk w ok u x ∧ Vp N w ok u ∧ ∀ g, ok g → lo ≤ g ∧ g < w.heap.size
/-- A row of copies, under way. -/
def RV (N base lo : Nat) (w : World) (g n : Nat) (L : List V) : Prop :=
  ∃ xs, w.ownsRow base 33 4 (.slice (some ⟨g, 0, none⟩) L.length n) L.length xs ∧ ∃ oks : Nat → Nat → Prop, ∀ i x, L[i]? = some x → (∃ a b c d, xs[i * 4]? = some a ∧ xs[i * 4 + 1]? = some b ∧ xs[i * 4 + 2]? = some c ∧ xs[i * 4 + 3]? = some d ∧ Vk w (oks i) (.agg #[a, b, c, d]) x ∧ Vp N w (oks i) (.agg #[a, b, c, d])) ∧
    ∀ q, oks i q → lo ≤ q ∧ q < w.heap.size ∧ ∀ j, j < L.length → j ≠ i → ¬ oks j q
theorem RV.on {N base lo : Nat} {w w' : World} {g n : Nat} {L : List V} (h : RV N base lo w g n L) (hb : Below w.heap.size w w') : RV N base lo w' g n L := by
  obtain ⟨xs, h1, oks, h2⟩ := h
  refine ⟨xs, own_on h1 fun k hk => hb.block k (h1.lt k hk).2, oks, fun i x hi => ?_⟩
  obtain ⟨⟨a, b, c, d, e0, e1, e2, e3, hv, hp⟩, h3⟩ := h2 i x hi
  exact ⟨⟨a, b, c, d, e0, e1, e2, e3, hv.on hb, hp.keep (fun g _ hg => hb.block g hg) hb.size⟩, fun q hq => ⟨(h3 q hq).1, Nat.lt_of_lt_of_le (h3 q hq).2.1 hb.size, (h3 q hq).2.2⟩⟩
theorem RV.more {N base lo s : Nat} {w w' : World} {g n : Nat} {L : List V} {a b c d : Value} {x : V} {ok : Nat → Prop} {xs : List Value}
    (h2 : ∃ oks : Nat → Nat → Prop, ∀ i x, L[i]? = some x → (∃ a b c d, xs[i * 4]? = some a ∧ xs[i * 4 + 1]? = some b ∧ xs[i * 4 + 2]? = some c ∧ xs[i * 4 + 3]? = some d ∧ Vk w (oks i) (.agg #[a, b, c, d]) x ∧ Vp N w (oks i) (.agg #[a, b, c, d])) ∧ ∀ q, oks i q → lo ≤ q ∧ q < s ∧ ∀ j, j < L.length → j ≠ i → ¬ oks j q)
    (hs : s ≤ w.heap.size) (hlo : lo ≤ s) (hg : g < lo) (hgr : w.grownBy w' (some g)) (hxs : xs.length = L.length * 4)
    (ho : w'.ownsRow base 33 4 (.slice (some ⟨g, 0, none⟩) (L.length + 1) n) (L.length + 1) (xs ++ [a, b, c, d])) (hv : Vk w ok (.agg #[a, b, c, d]) x) (hp : Vp N w ok (.agg #[a, b, c, d])) (hok : ∀ q, ok q → s ≤ q ∧ q < w.heap.size) : RV N base lo w' g n (L ++ [x]) := by
  obtain ⟨oks, h2⟩ := h2
  have hk : ∀ q, lo ≤ q → q < w.heap.size → w'.heap[q]? = w.heap[q]? := fun q h1 h3 => hgr.block q h3 (by simp; omega)
  refine ⟨xs ++ [a, b, c, d], by rw [List.length_append]; exact ho, fun i => if i < L.length then oks i else ok, fun i y hi => ?_⟩
  rcases Nat.lt_or_ge i L.length with h1 | h1
  · rw [List.getElem?_append_left h1] at hi
    obtain ⟨⟨p, q, r, z, e0, e1, e2, e3, hm, hpp⟩, h3⟩ := h2 i y hi
    simp only [if_pos h1]
    refine ⟨⟨p, q, r, z, by rw [List.getElem?_append_left (by omega)]; exact e0, by rw [List.getElem?_append_left (by omega)]; exact e1, by rw [List.getElem?_append_left (by omega)]; exact e2, by rw [List.getElem?_append_left (by omega)]; exact e3, hm.keep (fun q hq hl => hk q (h3 q hq).1 hl) hgr.size, hpp.keep (fun q hq hl => hk q (h3 q hq).1 hl) hgr.size⟩, fun q hq => ⟨(h3 q hq).1, by have := (h3 q hq).2.1; have := hgr.size; omega, fun j hj hji => ?_⟩⟩
    by_cases hjl : j < L.length
    · simp only [if_pos hjl]; exact (h3 q hq).2.2 j hjl hji
    · simp only [if_neg hjl]; intro e; have := (hok q e).1; have := (h3 q hq).2.1; omega
  · have hi2 : i = L.length := by
      have := (List.getElem?_eq_some_iff.1 hi).1
      simp at this; omega
    subst hi2
    rw [List.getElem?_append_right (by omega), Nat.sub_self] at hi
    obtain rfl : x = y := by simpa using hi
    simp only [if_neg (Nat.lt_irrefl _)]
    refine ⟨⟨a, b, c, d, by rw [List.getElem?_append_right (by omega), hxs, Nat.sub_self]; rfl, by rw [List.getElem?_append_right (by omega), hxs, Nat.add_sub_cancel_left]; rfl, by rw [List.getElem?_append_right (by omega), hxs, Nat.add_sub_cancel_left]; rfl, by rw [List.getElem?_append_right (by omega), hxs, Nat.add_sub_cancel_left]; rfl, hv.keep (fun q hq hl => hk q (by have := (hok q hq).1; omega) hl) hgr.size, hp.keep (fun q hq hl => hk q (by have := (hok q hq).1; omega) hl) hgr.size⟩, fun q hq => ⟨by have := (hok q hq).1; omega, by have := (hok q hq).2; have := hgr.size; omega, fun j hj hji => ?_⟩⟩
    have hjl : j < L.length := by rw [List.length_append] at hj; simp at hj; omega
    simp only [if_pos hjl]
    intro e
    obtain ⟨y, hy⟩ := get_lt hjl
    have := ((h2 j y hy).2 q e).2.1
    have := (hok q hq).1
    omega
theorem cells_four9 (w : World) (t : TypeId) (a b c d : Value) : ∀ j x, [a, b, c, d][j]? = some x → (w.alloc (.cells #[a, b, c, d] t)).cell? ((⟨w.heap.size, 0, none⟩ : Addr).add j) = some x := by
  intro j x hx
  rw [addAt, Nat.zero_add]
  have e := heap_alloc_new w (.cells #[a, b, c, d] t)
  simp only [World.cell?, e]
  simpa using hx
/-- A row of copies, or none. -/
def RVO (N base : Nat) (w : World) (R : Option Addr) (c : Nat) (l : List V) : Prop := (R = none ∧ l = [] ∧ c = 0) ∨ ∃ g, R = some ⟨g, 0, none⟩ ∧ c = l.length ∧ RV N base (g + 1) w g l.length l
end Va
end Go.Proofs.YtggeiajbcehkjaaGreatDoor
