/- The document's Get. -/
import Derived.Test.YtnnlgodgaolkkaaGreatDoorHf
import Derived.Test.YtnnlgodgaolkkaaGreatDoorHd
import Derived.Test.YtnnlgodgaolkkaaGreatDoorStm
namespace Go.Proofs.YtnnlgodgaolkkaaGreatDoor
open Go.RowKit
namespace Va

def gt : V → Bs → Option V
  | .mk k t l ks, key => if k = 8 ∧ may (.mk k t l ks) = true then (fnd ks key).bind fun i => l[i]? else none
theorem vm_zero (w : World) : Vm w (.agg #[.int .u8 0, .string ⟨#[]⟩, .slice none 0 0, .slice none 0 0]) (.mk 0 [] [] []) := by
  have := Vk.mk (w := w) (ok := fun _ => True) 0 [] [] [] none none 0 0 (fun _ _ => .int .u8 0) (by decide) (Nat.le_refl _) (Nat.zero_le _) (fun _ => rfl) (Nat.le_refl _) (Nat.zero_le _) (fun _ => rfl) (fun h => absurd h (by simp)) (fun h => absurd h (by simp)) (fun h => absurd h (by simp)) (fun _ _ _ _ => trivial) (fun i x h => by simp at h)
  exact this
theorem vshape {w : World} {u : Value} {x : V} (h : Vm w u x) : ∃ (k : Nat) (t : ByteArray) (A B : Option Addr) (n c m d : Nat), u = .agg #[.int .u8 k, .string t, .slice A n c, .slice B m d] := by
  cases h with
  | mk k t l ks A B c d f => exact ⟨k, _, A, B, _, _, _, _, rfl⟩
theorem vcells {w : World} {g : Nat} {a b c d : Value} (e : w.heap[g]? = some (vO a b c d)) : (w.cell? ⟨g, 0, none⟩ = some a ∧ w.cell? ⟨g, 1, none⟩ = some b ∧ w.cell? ⟨g, 2, none⟩ = some c ∧ w.cell? ⟨g, 3, none⟩ = some d) ∧ w.frozen? ⟨g, 0, none⟩ = false ∧ w.frozen? ⟨g, 1, none⟩ = false ∧ w.frozen? ⟨g, 2, none⟩ = false ∧ w.frozen? ⟨g, 3, none⟩ = false := by
  simp [World.cell?, World.frozen?, e]
set_option maxHeartbeats 16000000 in
set_option maxRecDepth 100000 in
theorem rget_any {x : V} {v : Value} {key : Bs} {s : ByteArray} (w : World) (hx : wt x ≤ 1000000000000) (hv : Vm w v x) (hs : s = txt key) :
    Calls Tryz.prog 22 #[v, .string s] w fun e w' => (∃ u, e = .returned (.tuple #[u, .bool (gt x key).isSome]) ∧ Vm w' u ((gt x key).getD (.mk 0 [] [] []))) ∧ Below w.heap.size w w' := by
  obtain ⟨R, hR⟩ : ∃ R, R = gt x key := ⟨_, rfl⟩
  obtain ⟨p, hp⟩ : ∃ p, p = may x := ⟨_, rfl⟩
  obtain ⟨z, hz⟩ : ∃ z, z = fnI (fnd x.keys key) := ⟨_, rfl⟩
  rw [← hR]
  have CM := Lib.hid (fun (w' : World) (hb : Below w.heap.size w w') => by have := rmay_any w' hx (hv.on hb); rw [← hp] at this; exact this)
  have CF := Lib.hid (fun (w' : World) (hb : Below w.heap.size w w') => find_any (z := z) w' v (hv.on hb) hx hs hz)
  obtain ⟨k, t, l, ks⟩ := x
  obtain ⟨A, B, c, d, rfl, hk, hl, hc, hA, hd, hd2, hB, hK, hV⟩ := hv.inv
  obtain ⟨T, hT⟩ : ∃ T, T = txt t := ⟨_, rfl⟩
  rw [← hT] at CM CF ⊢
  obtain ⟨W1, hW1⟩ : ∃ W, W = w.alloc (vO (.int .u8 k) (.string T) (.slice A l.length c) (.slice B ks.length d)) := ⟨_, rfl⟩
  obtain ⟨W2, hW2⟩ : ∃ W, W = W1.alloc (vO (.int .u8 0) (.string ⟨#[]⟩) (.slice none 0 0) (.slice none 0 0)) := ⟨_, rfl⟩
  have hb1 : Below w.heap.size w W1 := by rw [hW1]; exact below_new ..
  have hb2 : Below W1.heap.size W1 W2 := by rw [hW2]; exact below_new ..
  have HX := Lib.hid (show Bx W2 w.heap.size (.int .u8 k) (.string T) (.slice A l.length c) (.slice B ks.length d) from (show Bx W1 w.heap.size (.int .u8 k) (.string T) (.slice A l.length c) (.slice B ks.length d) from by rw [hW1]; exact Bx.new ..).on hb2)
  have hsz : w.heap.size + 1 = W1.heap.size := by rw [hW1]; show _ = (w.heap.push _).size; rw [Array.size_push]
  have HY := Lib.hid (show W2.heap[W1.heap.size]? = some (vO (.int .u8 0) (.string ⟨#[]⟩) (.slice none 0 0) (.slice none 0 0)) from by rw [hW2]; exact heap_alloc_new ..)
  have HZ2 := Lib.hid (show W1.heap.size < W2.heap.size from by rw [hW2]; show _ < (W1.heap.push _).size; rw [Array.size_push]; omega)
  have HLE := Lib.hid (show w.heap.size ≤ W1.heap.size from by omega)
  have HB2 := Lib.hid (below_tr hb1 hb2)
  have HV := Lib.hid hV
  have HR := Lib.hid (show R = if k = 8 ∧ p = true then (fnd ks key).bind fun i => l[i]? else none from by rw [hR, gt, hp])
  have HP := Lib.hid (show p = may (.mk k t l ks) from hp)
  have HZ := Lib.hid (show z = fnI (fnd ks key) from hz)
  have HL := Lib.hid (show l.length ≤ 1000000000000 from by have := wtL_len l; rw [wt] at hx; omega)
  have HW1 := Lib.hid hW1
  have HW2 := Lib.hid hW2
  clear hV hK hv hT hx hp hz hR hW1 hW2 hb1 hb2 hs
  go_enter Tryz.func22, Tryz.ntmps22
  go_upto_region 1 with fail
  rw [← HW1.out, ← HW2.out]
  obtain ⟨h2, hh2⟩ : ∃ h2, h2 = W1.heap.size := ⟨_, rfl⟩
  rw [← hh2] at HY HZ2 HLE ⊢
  obtain ⟨h, hh⟩ : ∃ h, h = w.heap.size := ⟨_, rfl⟩
  rw [← hh] at HX
  rw [← hh]
  have HS := Lib.hid hh
  clear HW1 HW2 hh hsz hh2
  obtain ⟨x0, x1, x2, x3⟩ : W2.cell? ⟨h, 0, none⟩ = some (.int .u8 k) ∧ W2.cell? ⟨h, 1, none⟩ = some (.string T) ∧ W2.cell? ⟨h, 2, none⟩ = some (.slice A l.length c) ∧ W2.cell? ⟨h, 3, none⟩ = some (.slice B ks.length d) := ⟨HX.out.c0, HX.out.c1, HX.out.c2, HX.out.c3⟩
  by_cases h8 : k = 8
  · subst h8
    go_wp2_with fail
    refine (CM.out _ HB2.out).mono ?_
    rintro e w3 ⟨rfl, hb⟩
    have hb5 : Below W2.heap.size W2 w3 := hb
    have HB3 := Lib.hid (below_tr HB2.out hb5)
    have HY3 := Lib.hid (show w3.heap[h2]? = some (vO (.int .u8 0) (.string ⟨#[]⟩) (.slice none 0 0) (.slice none 0 0)) from by rw [hb5.block h2 HZ2.out]; exact HY.out)
    have X := HX.out.on hb5
    have HZ3 := Lib.hid (show h2 < w3.heap.size from Nat.lt_of_lt_of_le HZ2.out hb5.size)
    have y0 := X.c0
    have y1 := X.c1
    have y2 := X.c2
    have y3 := X.c3
    have HX3 := Lib.hid X
    clear X hb hb5 x0 x1 x2 x3 HY HX HZ2 HB2
    cases hp : p with
    | false =>
      subst hp
      have HN := Lib.hid (show R = none from by rw [HR.out, if_neg (fun e => absurd e.2 (by simp))])
      obtain ⟨⟨r0, r1, r2, r3⟩, t0, t1, t2, t3⟩ := vcells HY3.out
      have HBW := HB3
      go_wp2_with fail
      refine bodyPost_ret (v := .tuple #[.agg #[.int .u8 0, .string ⟨#[]⟩, .slice none 0 0, .slice none 0 0], .bool false]) (by simp [results, Tryz.results22, go_sem, *]) rfl ?_
      rw [HN.out]
      exact ⟨⟨_, rfl, vm_zero _⟩, (((HBW.out.setCell HLE.out _).setCell HLE.out _).setCell HLE.out _).setCell HLE.out _⟩
    | true =>
      subst hp
      have PA := Lib.hid (may_parts HP.out.symm)
      have HR8 := Lib.hid (show R = (fnd ks key).bind fun i => l[i]? from by rw [HR.out]; simp)
      go_wp2_with fail
      refine (CF.out _ HB3.out).mono ?_
      rintro e w4 ⟨rfl, hb⟩
      have hb5 : Below w3.heap.size w3 w4 := hb
      have HB4 := Lib.hid (below_tr HB3.out hb5)
      have HY4 := Lib.hid (show w4.heap[h2]? = some (vO (.int .u8 0) (.string ⟨#[]⟩) (.slice none 0 0) (.slice none 0 0)) from by rw [hb5.block h2 HZ3.out]; exact HY3.out)
      have X := HX3.out.on hb5
      have HZ4 := Lib.hid (show h2 < w4.heap.size from Nat.lt_of_lt_of_le HZ3.out hb5.size)
      have x0 := X.c0
      have x1 := X.c1
      have x2 := X.c2
      have x3 := X.c3
      have HX4 := Lib.hid X
      clear X hb hb5 y0 y1 y2 y3 HY3 HX3 HZ3 HB3
      obtain ⟨o, ho⟩ : ∃ o, o = fnd ks key := ⟨_, rfl⟩
      rw [← ho] at HR8 HZ
      have HO := Lib.hid ho
      clear ho
      cases o with
      | none =>
        obtain rfl : z = -1 := HZ.out
        have HN := Lib.hid (show R = none from HR8.out)
        obtain ⟨⟨r0, r1, r2, r3⟩, t0, t1, t2, t3⟩ := vcells HY4.out
        have HBW := HB4
        go_wp2_with fail
        refine bodyPost_ret (v := .tuple #[.agg #[.int .u8 0, .string ⟨#[]⟩, .slice none 0 0, .slice none 0 0], .bool false]) (by simp [results, Tryz.results22, go_sem, *]) rfl ?_
        rw [HN.out]
        exact ⟨⟨_, rfl, vm_zero _⟩, (((HBW.out.setCell HLE.out _).setCell HLE.out _).setCell HLE.out _).setCell HLE.out _⟩
      | some i =>
        obtain rfl : z = (i : Nat) := HZ.out
        have hil : i < l.length := by have := PA.out.2.2.1 (by trivial); have := (List.getElem?_eq_some_iff.1 (fnd_get HO.out.symm)).1; omega
        obtain ⟨x, hx⟩ := get_lt (l := l) (i := i) hil
        have HN := Lib.hid (show R = some x from by rw [HR8.out]; exact hx)
        obtain ⟨g, og, rfl, hg, hf⟩ := HV.out (by omega)
        obtain ⟨v0, v1, v2, v3, d0, d1, d2, d3, hvm⟩ := hf i x hx
        obtain ⟨uk, ut, uA, uB, un, uc, um, ud, he9⟩ := vshape hvm
        obtain ⟨rfl, rfl, rfl, rfl⟩ : v0 = .int .u8 uk ∧ v1 = .string ut ∧ v2 = .slice uA un uc ∧ v3 = .slice uB um ud := by simpa using he9
        clear he9
        have HVM := Lib.hid (show Vk w (fun g => g < w.heap.size) _ x from Vk.to hvm (fun g hg _ => hg))
        have hlt5 := HL.out
        have f1 : ((i : Int) < 0) = False := by simp
        have CG := Lib.hid (CF.out w4.drew HB4.out.drew)
        have HG := Lib.hid (fun (w5 : World) (hb0 : Below w4.drew.heap.size w4.drew w5) => by
          have hb : Below w4.heap.size w4 w5 := below_tr ((Below.refl _ _).drew) hb0
          have hbw := below_tr HB4.out hb
          have e : w5.heap[h2]? = some (vO (.int .u8 0) (.string ⟨#[]⟩) (.slice none 0 0) (.slice none 0 0)) := by rw [hb.block h2 HZ4.out]; exact HY4.out
          exact (show ((w5.cell? ⟨h, 2, none⟩ = some (.slice (some ⟨g, og, none⟩) l.length c)) ∧ (w5.cell? ⟨g, og + i * 4, none⟩ = some (.int .u8 uk) ∧ w5.cell? ⟨g, og + i * 4 + 1, none⟩ = some (.string ut) ∧ w5.cell? ⟨g, og + i * 4 + 2, none⟩ = some (.slice uA un uc) ∧ w5.cell? ⟨g, og + i * 4 + 3, none⟩ = some (.slice uB um ud))) ∧ Below w.heap.size w w5 ∧ Vk w5 (fun g => g < w.heap.size) (.agg #[.int .u8 uk, .string ut, .slice uA un uc, .slice uB um ud]) x ∧ _ from
            ⟨⟨(HX4.out.on hb).c2, cell_old hbw hg d0, cell_old hbw hg d1, cell_old hbw hg d2, cell_old hbw hg d3⟩, hbw, HVM.out.on hbw, vcells e⟩))
        clear hf hvm hx
        go_upto_region 3 with fail
        go_region_law (go_simp; go_at_call 45; refine CG.out.mono ?_; rintro e w5 ⟨rfl, hb5⟩; obtain ⟨⟨z2, e0, e1, e2, e3⟩, HBW, HVN, ⟨r0, r1, r2, r3⟩, t0, t1, t2, t3⟩ := HG.out w5 hb5; have HBW := Lib.hid HBW; have HVN := Lib.hid HVN; clear hb5)
        all_goals
          go_wp2_with fail
          refine bodyPost_ret (v := .tuple #[.agg #[.int .u8 uk, .string ut, .slice uA un uc, .slice uB um ud], .bool true]) (by simp [results, Tryz.results22, go_sem, *]) rfl ?_
          rw [HN.out]
          have hle := HLE.out
          exact ⟨⟨_, rfl, Vk.to (HVN.out.keep (fun g hg _ => by rw [Go.RowKit.Below.heap_setCell _ _ _ _ (show g ≠ h2 by omega), Go.RowKit.Below.heap_setCell _ _ _ _ (show g ≠ h2 by omega), Go.RowKit.Below.heap_setCell _ _ _ _ (show g ≠ h2 by omega), Go.RowKit.Below.heap_setCell _ _ _ _ (show g ≠ h2 by omega)]) (by simp)) (fun _ _ _ => trivial)⟩, (((HBW.out.setCell HLE.out _).setCell HLE.out _).setCell HLE.out _).setCell HLE.out _⟩
  · have f8 : ((k : Int) == 8) = false := beq_eq_false_iff_ne.2 (by omega)
    have g8 : ((k : Int) != 8) = true := bne_iff_ne.2 (by omega)
    have HN := Lib.hid (show R = none from by rw [HR.out, if_neg (fun e => h8 e.1)])
    obtain ⟨⟨r0, r1, r2, r3⟩, t0, t1, t2, t3⟩ := vcells HY.out
    have HBW := HB2
    go_wp2_with fail
    refine bodyPost_ret (v := .tuple #[.agg #[.int .u8 0, .string ⟨#[]⟩, .slice none 0 0, .slice none 0 0], .bool false]) (by simp [results, Tryz.results22, go_sem, *]) rfl ?_
    rw [HN.out]
    exact ⟨⟨_, rfl, vm_zero _⟩, (((HBW.out.setCell HLE.out _).setCell HLE.out _).setCell HLE.out _).setCell HLE.out _⟩
end Va
end Go.Proofs.YtnnlgodgaolkkaaGreatDoor
/- A twin in memory: a value, each of whose rows has room behind, and a mark in it. -/
namespace Go.Proofs.YtnnlgodgaolkkaaGreatDoor
open Go.RowKit
namespace Va
set_option maxRecDepth 100000

/-- The mark. -/
def mrk : Bs := [109, 97, 114, 107]
/-- A twin, in blocks that are fit. -/
inductive Vt (w : World) (ok : Nat → Prop) : Value → V → Prop where
  | mk (k : Nat) (t : Bs) (l : List V) (ks : List Bs) (g o h p c d : Nat) (f : Nat → Nat → Value)
    (hk : k < 256) (hl : l.length < c) (hc : c ≤ maxLen) (hd : ks.length < d) (hd2 : d ≤ maxLen)
    (hg : g < w.heap.size) (hh : h < w.heap.size) (og : ok g) (oh : ok h)
    (hK : ∀ i s, ks[i]? = some s → w.cell? ⟨h, p + i, none⟩ = some (.string (txt s))) (mK : w.cell? ⟨h, p + ks.length, none⟩ = some (.string (txt mrk)))
    (hL : ∀ i, i < l.length → ∀ j, j < 4 → w.cell? ⟨g, o + i * 4 + j, none⟩ = some (f i j)) (mL : w.cell? ⟨g, o + l.length * 4 + 1, none⟩ = some (.string (txt mrk)))
    (hV : ∀ i x, l[i]? = some x → Vt w ok (.agg #[f i 0, f i 1, f i 2, f i 3]) x) :
    Vt w ok (.agg #[.int .u8 k, .string (txt t), .slice (some ⟨g, o, none⟩) l.length c, .slice (some ⟨h, p, none⟩) ks.length d]) (.mk k t l ks)
theorem Vt.vk {w : World} {ok : Nat → Prop} {v : Value} {x : V} (h : Vt w ok v x) : Vk w ok v x := by
  induction h with
  | mk k t l ks g o h p c d f hk hl hc hd hd2 hg hh og oh hK mK hL mL hV ih =>
    exact .mk k t l ks _ _ c d f hk (Nat.le_of_lt hl) hc (fun e => by cases e) (Nat.le_of_lt hd) hd2 (fun e => by cases e) (fun _ => ⟨h, p, rfl, hh, hK⟩) (fun _ => ⟨g, o, rfl, hg, hL⟩)
      (fun _ g' o' e => by injection e with e; injection e with e1 _ _; subst e1; exact og) (fun _ g' o' e => by injection e with e; injection e with e1 _ _; subst e1; exact oh) ih
theorem Vt.vm {w : World} {ok : Nat → Prop} {v : Value} {x : V} (h : Vt w ok v x) : Vm w v x := h.vk.vm
theorem Vt.keep {w w' : World} {ok : Nat → Prop} {v : Value} {x : V} (h : Vt w ok v x) (hb : ∀ g, ok g → g < w.heap.size → w'.heap[g]? = w.heap[g]?) (hs : w.heap.size ≤ w'.heap.size) : Vt w' ok v x := by
  induction h with
  | mk k t l ks g o h p c d f hk hl hc hd hd2 hg hh og oh hK mK hL mL hV ih =>
    exact .mk k t l ks g o h p c d f hk hl hc hd hd2 (Nat.lt_of_lt_of_le hg hs) (Nat.lt_of_lt_of_le hh hs) og oh (fun i s hi => cell_eq (hb h oh hh) (hK i s hi)) (cell_eq (hb h oh hh) mK)
      (fun i hi j hj => cell_eq (hb g og hg) (hL i hi j hj)) (cell_eq (hb g og hg) mL) ih
theorem Vt.on {w w' : World} {ok : Nat → Prop} {v : Value} {x : V} (h : Vt w ok v x) (hb : Below w.heap.size w w') : Vt w' ok v x := h.keep (fun g _ hg => hb.block g hg) hb.size
theorem Vt.to {w : World} {ok ok' : Nat → Prop} {v : Value} {x : V} (h : Vt w ok v x) (hi : ∀ g, g < w.heap.size → ok g → ok' g) : Vt w ok' v x := by
  induction h with
  | mk k t l ks g o h p c d f hk hl hc hd hd2 hg hh og oh hK mK hL mL hV ih =>
    exact .mk k t l ks g o h p c d f hk hl hc hd hd2 hg hh (hi g hg og) (hi h hh oh) hK mK hL mL ih
/-- A twin's parts. -/
theorem Vt.inv {w : World} {ok : Nat → Prop} {v : Value} {k : Nat} {t : Bs} {l : List V} {ks : List Bs} (h : Vt w ok v (.mk k t l ks)) :
    ∃ g o h p c d, v = .agg #[.int .u8 k, .string (txt t), .slice (some ⟨g, o, none⟩) l.length c, .slice (some ⟨h, p, none⟩) ks.length d] ∧ k < 256 ∧ l.length < c ∧ c ≤ maxLen ∧ ks.length < d ∧ d ≤ maxLen ∧ g < w.heap.size ∧ h < w.heap.size ∧ ok g ∧ ok h ∧
      (∀ i s, ks[i]? = some s → w.cell? ⟨h, p + i, none⟩ = some (.string (txt s))) ∧ w.cell? ⟨h, p + ks.length, none⟩ = some (.string (txt mrk)) ∧ w.cell? ⟨g, o + l.length * 4 + 1, none⟩ = some (.string (txt mrk)) ∧
      ∀ i x, l[i]? = some x → ∃ v0 v1 v2 v3, w.cell? ⟨g, o + i * 4, none⟩ = some v0 ∧ w.cell? ⟨g, o + i * 4 + 1, none⟩ = some v1 ∧ w.cell? ⟨g, o + i * 4 + 2, none⟩ = some v2 ∧ w.cell? ⟨g, o + i * 4 + 3, none⟩ = some v3 ∧ Vt w ok (.agg #[v0, v1, v2, v3]) x := by
  cases h with
  | mk _ _ _ _ g o h p c d f hk hl hc hd hd2 hg hh og oh hK mK hL mL hV =>
    refine ⟨g, o, h, p, c, d, rfl, hk, hl, hc, hd, hd2, hg, hh, og, oh, hK, mK, mL, fun i x hx => ?_⟩
    have hi := (List.getElem?_eq_some_iff.1 hx).1
    exact ⟨_, _, _, _, hL i hi 0 (by decide), hL i hi 1 (by decide), hL i hi 2 (by decide), hL i hi 3 (by decide), hV i x hx⟩
end Va
end Go.Proofs.YtnnlgodgaolkkaaGreatDoor
/- The law's own example, made. -/
namespace Go.Proofs.YtnnlgodgaolkkaaGreatDoor
open Go.RowKit
namespace Va

def sV : V := .mk 8 [] [.mk 7 [] [.mk 2 [49, 101, 48] [] [], .mk 0 [] [] []] [], .mk 3 [120] [] []] [[98], [97]]
theorem al_size (W : World) (o : Obj) : (W.alloc o).heap.size = W.heap.size + 1 := by show (W.heap.push o).size = _; rw [Array.size_push]
theorem al_old {W : World} {o : Obj} {g : Nat} (h : g < W.heap.size) : (W.alloc o).heap[g]? = W.heap[g]? := by
  show (W.heap.push o)[g]? = _
  rw [Array.getElem?_push_lt h, Array.getElem?_eq_getElem h]
theorem al_new {W : World} {o : Obj} {g : Nat} (h : g = W.heap.size) : (W.alloc o).heap[g]? = some o := by subst h; exact heap_alloc_new W o
/-- A value without parts. -/
theorem leaf_vk (w : World) (ok : Nat → Prop) {k : Nat} {t : Bs} (hk : k < 256) {s : ByteArray} (hs : s = txt t) {z : Int} (hz : z = (k : Nat)) : Vk w ok (.agg #[.int .u8 z, .string s, .slice none 0 0, .slice none 0 0]) (.mk k t [] []) := by
  subst hs hz
  exact .mk k t [] [] none none 0 0 (fun _ _ => .int .u8 0) hk (Nat.le_refl _) (Nat.zero_le _) (fun _ => rfl) (Nat.le_refl _) (Nat.zero_le _) (fun _ => rfl) (fun h => absurd h (by simp)) (fun h => absurd h (by simp)) (fun h => absurd h (by simp)) (fun h => absurd h (by simp)) (fun i x h => by simp at h)
/-- A list of two. -/
theorem two_vk (w : World) (ok : Nat → Prop) {k g : Nat} (hk : k < 256) {z : Int} (hz : z = (k : Nat)) {x y : V} {a b c d p q r s : Value} {T : TypeId} (hg : w.heap[g]? = some (.cells #[a, b, c, d, p, q, r, s] T)) (ho : ok g) (hx : Vk w ok (.agg #[a, b, c, d]) x) (hy : Vk w ok (.agg #[p, q, r, s]) y)
    {B : Option Addr} {ks : List Bs} {n dd : Nat} (hn : n = ks.length) (hd : n ≤ dd) (hd2 : dd ≤ maxLen) (hB : B = none → dd = 0) (hK : Tx w B ks) (hb : 0 < ks.length → ∀ g o, B = some ⟨g, o, none⟩ → ok g) :
    Vk w ok (.agg #[.int .u8 z, .string ⟨#[]⟩, .slice (some ⟨g, 0, none⟩) 2 2, .slice B n dd]) (.mk k [] [x, y] ks) := by
  subst hz hn
  have hlt : g < w.heap.size := (Array.getElem?_eq_some_iff.1 hg).1
  refine .mk k [] [x, y] ks (some ⟨g, 0, none⟩) B 2 dd (fun i j => (#[a, b, c, d, p, q, r, s] : Array Value).getD (i * 4 + j) (.int .u8 0)) hk (Nat.le_refl _) (by unfold maxLen; omega) (fun h => by cases h) hd hd2 hB hK (fun _ => ⟨g, 0, rfl, hlt, fun i hi j hj => ?_⟩) (fun _ g' o e => by injection e with e; injection e with e1 _ _; rw [← e1]; exact ho) hb (fun i v h => ?_)
  · rw [Nat.zero_add]
    simp only [World.cell?, hg]
    have hi : i < 2 := hi
    rcases (show i = 0 ∨ i = 1 by omega) with rfl | rfl <;> rcases (show j = 0 ∨ j = 1 ∨ j = 2 ∨ j = 3 by omega) with rfl | rfl | rfl | rfl <;> rfl
  · rcases i with _ | _ | i
    · obtain rfl : x = v := by simpa using h
      exact hx
    · obtain rfl : y = v := by simpa using h
      exact hy
    · simp at h
set_option maxHeartbeats 4000000 in
set_option maxRecDepth 100000 in
theorem small_any (w : World) : Calls Tryz.prog 27 #[] w fun e w' => (∃ u, e = .returned u ∧ Vk w' (fun g => w.heap.size ≤ g) u sV) ∧ Below w.heap.size w w' := by
  go_enter Tryz.func27, Tryz.ntmps27
  go_wp2_with fail
  refine bodyPost_ret (v := .agg #[.int .u8 8, .string ⟨#[]⟩, .slice (some ⟨w.heap.size + 1 + 1 + 1 + 1, 0, none⟩) 2 2, .slice (some ⟨w.heap.size + 1 + 1 + 1, 0, none⟩) 2 2]) (by simp [results, Tryz.results27, go_sem, *]) rfl ?_
  refine ⟨⟨_, rfl, ?_⟩, ((((((Below.refl _ _).alloc (Nat.le_refl _) _).alloc (by simp) _).alloc (by simp; omega) _).alloc (by simp; omega) _).alloc (by simp; omega) _)⟩
  refine two_vk _ _ (k := 8) (by omega) rfl (x := .mk 7 [] [.mk 2 [49, 101, 48] [] [], .mk 0 [] [] []] []) (y := .mk 3 [120] [] []) (T := 26) (a := .int .u8 7) (b := .string ⟨#[]⟩) (c := .slice (some ⟨w.heap.size + 1, 0, none⟩) 2 2) (d := .slice none 0 0) (p := .int .u8 3) (q := .string ⟨#[120]⟩) (r := .slice none 0 0) (s := .slice none 0 0) ?_ (by omega) ?_ (leaf_vk _ _ (by omega) rfl rfl) rfl (Nat.le_refl _) (by unfold maxLen; omega) (fun h => by cases h) (fun _ => ⟨w.heap.size + 1 + 1 + 1, 0, rfl, ?_, fun i t h => ?_⟩) (fun _ g o e => by injection e with e; injection e with e1 _ _; omega)
  · exact al_new (by simp only [al_size])
  · refine two_vk _ _ (k := 7) (by omega) rfl (x := .mk 2 [49, 101, 48] [] []) (y := .mk 0 [] [] []) (T := 26) (a := .int .u8 2) (b := .string ⟨#[49, 101, 48]⟩) (c := .slice none 0 0) (d := .slice none 0 0) (p := .int .u8 0) (q := .string ⟨#[]⟩) (r := .slice none 0 0) (s := .slice none 0 0) ?_ (by omega) (leaf_vk _ _ (by omega) rfl rfl) (leaf_vk _ _ (by omega) rfl rfl) rfl (Nat.le_refl _) (Nat.zero_le _) (fun _ => rfl) (fun h => absurd h (by simp)) (fun h => absurd h (by simp))
    rw [al_old (by simp only [al_size]; omega), al_old (by simp only [al_size]; omega), al_old (by simp only [al_size]; omega)]
    exact al_new (by simp only [al_size])
  · simp only [al_size]; omega
  · rw [World.cell?_alloc_lt _ _ _ (by show w.heap.size + 1 + 1 + 1 < _; simp only [al_size]; omega), World.cell?_alloc_at _ _ _ _ (by simp only [al_size])]
    rcases i with _ | _ | i
    · obtain rfl : [98] = t := by simpa using h
      rfl
    · obtain rfl : [97] = t := by simpa using h
      rfl
    · simp at h
end Va
end Go.Proofs.YtnnlgodgaolkkaaGreatDoor
