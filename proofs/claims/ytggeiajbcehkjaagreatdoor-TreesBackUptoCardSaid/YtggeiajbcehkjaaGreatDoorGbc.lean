/- What landed of values: the order of two values that may be. -/
import Derived.Test.YtggeiajbcehkjaaGreatDoorGbb
import Derived.Deep.RegionHeldLaw
import Derived.Test.YtggeiajbcehkjaaGreatDoorGax
import Derived.Test.YtggeiajbcehkjaaGreatDoorGak
import Derived.RangeFuncBox
import Derived.RangeFuncLeaves
import Derived.Shelf.Abstract
import Derived.WalkKit
import Derived.OwnWalkIn
import Derived.TacticsInMore
import Derived.LoopNIn
import Derived.LoopIn
import Derived.Maps.AppendAt
import Derived.Sort.OwnSorted
namespace Go.Proofs.YtggeiajbcehkjaaGreatDoor
open Go.RowKit
namespace Va
set_option maxRecDepth 100000

/-- How two entries in order stand: by key, then by value. -/
def fE (p q : Bs × V) : Ordering := (bcmp p.1 q.1).then (cmpV (can p.2) (can q.2))
def fV (x y : V) : Ordering := cmpV (can x) (can y)
theorem cmpL_G : ∀ (l l' : List V), cmpL (canL l) [] (canL l') [] = cmpG fV l l'
  | [], [] => by rw [canL, cmpL, cmpG]
  | [], y :: s => by rw [canL, canL, cmpL, cmpG]
  | x :: r, [] => by rw [canL, canL, cmpL.eq_3, cmpG]
  | x :: r, y :: s => by
    rw [canL, canL, cmpL, cmpG, show bcmp (([] : List Bs).headD []) (([] : List Bs).headD []) = .eq from bcmp_self _, ← cmpL_G r s]; rfl
theorem cmpL_E : ∀ (E E' : List (Bs × V)), cmpL (E.map fun p => can p.2) (E.map Prod.fst) (E'.map fun p => can p.2) (E'.map Prod.fst) = cmpG fE E E'
  | [], [] => by rw [List.map_nil, List.map_nil, cmpL, cmpG]
  | [], y :: s => by rw [List.map_nil, List.map_nil, List.map_cons, cmpL, cmpG]
  | x :: r, [] => by rw [List.map_cons, List.map_cons, List.map_nil, cmpL.eq_3, cmpG]
  | x :: r, y :: s => by
    rw [List.map_cons, List.map_cons, List.map_cons, List.map_cons, cmpL, cmpG, ← cmpL_E r s, fE]
    show (bcmp x.1 y.1).then _ = _
    cases bcmp x.1 y.1 <;> rfl
theorem can_ent {t : Bs} {l : List V} {ks : List Bs} (h : ks.length = l.length) : can (.mk 8 t l ks) = .mk 8 t ((entL l ks).map fun p => can p.2) ((entL l ks).map Prod.fst) := by
  rw [can_map, entL, List.map_map, List.map_map]
  congr 1
  apply List.map_congr_left
  intro j hj
  have hj := ord_mem.1 hj
  obtain ⟨x, hx⟩ := get_lt (l := l) (i := j) (by rw [← h]; exact hj)
  show _ = can (l.getD j v0)
  rw [can_at hx, List.getD_eq_getElem?_getD, hx]; rfl
theorem cmp_full {k k' : Nat} {t t' : Bs} {l l' : List V} {ks ks' : List Bs} : cmpV (.mk k t l ks) (.mk k' t' l' ks') = ((ncmp k k').then (bcmp t t')).then (cmpL l ks l' ks') := by rw [cmpV]; cases ncmp k k' <;> rfl
theorem then_eq2 {a b : Ordering} (h : a.then b = .eq) : a = .eq ∧ b = .eq := then_eq h
theorem pair_new (w : World) (a b : Value) (t : TypeId) : (w.alloc (.cells #[a, b] t)).cell? ⟨w.heap.size, 0, none⟩ = some a ∧ (w.alloc (.cells #[a, b] t)).cell? ⟨w.heap.size, 1, none⟩ = some b := by
  have h := heap_alloc_new w (.cells #[a, b] t)
  constructor <;> · simp only [World.cell?, h]; rfl
set_option maxHeartbeats 8000000 in
theorem order_any : ∀ (N : Nat) (x y : V), wt x ≤ N → N ≤ 1000000 → wt y ≤ 1000000 → may x = true → may y = true → ∀ (w : World) (v u : Value), Vm w v x → Vm w u y →
    Calls Tryz.prog 53 #[v, u] w fun e w' => e = .returned (.int .i64 (oN (fV x y))) ∧ Below w.heap.size w w'
  | 0, x, _, hx, _, _, _, _, _, _, _, _, _ => by have := wt_pos x; omega
  | N + 1, .mk k t l ks, .mk k' t' l' ks', hx, hN, hy, hmx, hmy, w, v, u, hv, hu => by
    have IH := Lib.hid (fun (i j : Nat) (x y : V) (hi : l[i]? = some x) (hj : l'[j]? = some y) (w : World) (v u : Value) (h : Vm w v x) (h' : Vm w u y) => order_any N x y (by have := wt_sub (k := k) (t := t) (ks := ks) hi; omega) (by omega) (by have := wt_sub (k := k') (t := t') (ks := ks') hj; omega) (may_sub hmx hi) (may_sub hmy hj) w v u h h')
    have PX := Lib.hid (may_parts hmx)
    have PY := Lib.hid (may_parts hmy)
    obtain ⟨R, hR⟩ : ∃ R, R = fV (.mk k t l ks) (.mk k' t' l' ks') := ⟨_, rfl⟩
    rw [← hR]
    have HR := Lib.hid hR
    have HVX := Lib.hid hv
    have HVY := Lib.hid hu
    have hn0 : l.length ≤ 1000000 := by have := wtL_len l; rw [wt] at hx; omega
    have hn0' : l'.length ≤ 1000000 := by have := wtL_len l'; rw [wt] at hy; omega
    have hm0 : ks.length ≤ 1000000 := by rw [wt] at hx; omega
    have hm0' : ks'.length ≤ 1000000 := by rw [wt] at hy; omega
    have EX := Lib.hid (fun (h : k = 8) (w' : World) (hb : Below w.heap.size w w') => show Calls Tryz.prog 86 #[v] w' fun e w2 => (∃ A c, e = .returned (.slice A ks.length c) ∧ Er w2 (fun _ => True) A (entL l ks)) ∧ Below w'.heap.size w' w2 from by subst h; exact entries_any w' (hv.on hb) (PX.out.2.2.1 rfl) PX.out.2.2.2.1 hm0)
    have EY := Lib.hid (fun (h : k' = 8) (w' : World) (hb : Below w.heap.size w w') => show Calls Tryz.prog 86 #[u] w' fun e w2 => (∃ A c, e = .returned (.slice A ks'.length c) ∧ Er w2 (fun _ => True) A (entL l' ks')) ∧ Below w'.heap.size w' w2 from by subst h; exact entries_any w' (hu.on hb) (PY.out.2.2.1 rfl) PY.out.2.2.2.1 hm0')
    have HN0 := Lib.hid (show l.length ≤ 1000000 ∧ l'.length ≤ 1000000 ∧ ks.length ≤ 1000000 ∧ ks'.length ≤ 1000000 from ⟨hn0, hn0', hm0, hm0'⟩)
    obtain ⟨A, B, c, d, rfl, hk, hl, hc, hA, hd, hd2, hB, hK, hV⟩ := hv.inv
    obtain ⟨A', B', c', d', rfl, hk', hl', hc', hA', hd', hd2', hB', hK', hV'⟩ := hu.inv
    have HV := Lib.hid hV
    have HV' := Lib.hid hV'
    obtain ⟨T, hT⟩ : ∃ T, T = txt t := ⟨_, rfl⟩
    obtain ⟨T', hT'⟩ : ∃ T, T = txt t' := ⟨_, rfl⟩
    have CS := Lib.hid (strc_any hT hT')
    have CK := Lib.hid (kinds_any k k')
    obtain ⟨n, HN⟩ : ∃ n, Hid (n = l.length) := ⟨_, Lib.hid rfl⟩
    obtain ⟨m, HM⟩ : ∃ m, Hid (m = ks.length) := ⟨_, Lib.hid rfl⟩
    obtain ⟨n', HN'⟩ : ∃ n, Hid (n = l'.length) := ⟨_, Lib.hid rfl⟩
    obtain ⟨m', HM'⟩ : ∃ m, Hid (m = ks'.length) := ⟨_, Lib.hid rfl⟩
    rw [← HN.out, ← HM.out, ← hT, ← HN'.out, ← HM'.out, ← hT']
    rw [← HN.out, ← HM.out, ← hT] at EX
    rw [← HN'.out, ← HM'.out, ← hT'] at EY
    clear hV hV' hK hK' hv hu hx hy hT hT' hmx hmy hn0 hn0' hm0 hm0' hR hN HVX HVY
    obtain ⟨W1, hW1⟩ : ∃ W, W = w.alloc (vO (.int .u8 k) (.string T) (.slice A n c) (.slice B m d)) := ⟨_, rfl⟩
    obtain ⟨W2, hW2⟩ : ∃ W, W = W1.alloc (vO (.int .u8 k') (.string T') (.slice A' n' c') (.slice B' m' d')) := ⟨_, rfl⟩
    have hb1 : Below w.heap.size w W1 := by rw [hW1]; exact below_new ..
    have hb2 : Below W1.heap.size W1 W2 := by rw [hW2]; exact below_new ..
    have HX := Lib.hid (show Bx W2 w.heap.size (.int .u8 k) (.string T) (.slice A n c) (.slice B m d) from (show Bx W1 w.heap.size (.int .u8 k) (.string T) (.slice A n c) (.slice B m d) from by rw [hW1]; exact Bx.new ..).on hb2)
    have HY := Lib.hid (show Bx W2 W1.heap.size (.int .u8 k') (.string T') (.slice A' n' c') (.slice B' m' d') from by rw [hW2]; exact Bx.new ..)
    have hsz : w.heap.size + 1 = W1.heap.size := by rw [hW1]; show _ = (w.heap.push _).size; rw [Array.size_push]
    have HB2 := Lib.hid (below_tr hb1 hb2)
    have HW1 := Lib.hid hW1
    have HW2 := Lib.hid hW2
    clear hW1 hW2 hb1 hb2
    go_enter Tryz.func53, Tryz.ntmps53
    go_upto_region 1 with fail
    rw [← HW1.out, ← HW2.out]
    obtain ⟨h2, hh2⟩ : ∃ h2, h2 = W1.heap.size := ⟨_, rfl⟩
    rw [← hh2] at HY ⊢
    obtain ⟨h, hh⟩ : ∃ h, h = w.heap.size := ⟨_, rfl⟩
    rw [← hh] at HX ⊢
    clear HW1 HW2 hh hsz hh2
    obtain ⟨p, hp⟩ : ∃ p, p = ncmp k k' := ⟨_, rfl⟩
    obtain ⟨q, hq⟩ : ∃ q, q = bcmp t t' := ⟨_, rfl⟩
    rw [← hp] at CK
    rw [← hq] at CS
    have HP := Lib.hid hp
    have HQ := Lib.hid hq
    obtain ⟨P, HPI⟩ : ∃ P, Hid (P = oN p) := ⟨_, Lib.hid rfl⟩
    obtain ⟨Q, HQI⟩ : ∃ Q, Hid (Q = oN q) := ⟨_, Lib.hid rfl⟩
    rw [← HPI.out] at CK
    rw [← HQI.out] at CS
    have CO := Lib.hid (fun (w' : World) (g : Nat) (h0 : w'.cell? ⟨g, 0, none⟩ = some (.int .i64 P)) (h1 : w'.cell? ⟨g, 1, none⟩ = some (.int .i64 Q)) => or_any (c := 2) p q w' (by rw [← HPI.out]; exact h0) (by rw [← HQI.out]; exact h1))
    clear hp hq
    go_cut [5] from 5 to 18 (fun a wx => a = .int .i64 (oN (p.then q)) ∧ Hid (Below W2.heap.size W2 wx))
    case first =>
      have SS := Lib.hid (fun (X Y : World) (h1 : Below W2.heap.size W2 X ∧ X.cell? ⟨h, 0, none⟩ = some (.int .u8 k) ∧ X.cell? ⟨h, 1, none⟩ = some (.string T) ∧ X.cell? ⟨h2, 0, none⟩ = some (.int .u8 k') ∧ X.cell? ⟨h2, 1, none⟩ = some (.string T')) (hb : Below X.heap.size X Y) =>
        show Below W2.heap.size W2 Y ∧ Y.cell? ⟨h, 0, none⟩ = some (.int .u8 k) ∧ Y.cell? ⟨h, 1, none⟩ = some (.string T) ∧ Y.cell? ⟨h2, 0, none⟩ = some (.int .u8 k') ∧ Y.cell? ⟨h2, 1, none⟩ = some (.string T') from
          ⟨below_tr h1.1 hb, cell_old hb (World.block_lt_of_cell? X _ h1.2.1) h1.2.1, cell_old hb (World.block_lt_of_cell? X _ h1.2.1) h1.2.2.1, cell_old hb (World.block_lt_of_cell? X _ h1.2.2.2.1) h1.2.2.2.1, cell_old hb (World.block_lt_of_cell? X _ h1.2.2.2.1) h1.2.2.2.2⟩)
      have S0 := Lib.hid (show Below W2.heap.size W2 W2.drew ∧ W2.drew.cell? ⟨h, 0, none⟩ = some (.int .u8 k) ∧ W2.drew.cell? ⟨h, 1, none⟩ = some (.string T) ∧ W2.drew.cell? ⟨h2, 0, none⟩ = some (.int .u8 k') ∧ W2.drew.cell? ⟨h2, 1, none⟩ = some (.string T') from ⟨(Below.refl _ _).drew, HX.out.c0, HX.out.c1, HY.out.c0, HY.out.c1⟩)
      go_region_held_law (fun X => Below W2.heap.size W2 X ∧ X.cell? ⟨h, 0, none⟩ = some (.int .u8 k) ∧ X.cell? ⟨h, 1, none⟩ = some (.string T) ∧ X.cell? ⟨h2, 0, none⟩ = some (.int .u8 k') ∧ X.cell? ⟨h2, 1, none⟩ = some (.string T'))
        (first | exact S0.out | exact SS.out _ _ (by assumption) (by assumption) | exact SS.out W2.drew _ S0.out (below_new W2.drew (.cells #[.int .i64 P, .int .i64 Q] 3)) | exact SS.out _ _ (by assumption) (below_new ..))
        (first
          | (go_simp; go_at_call 83; refine (CK.out _).mono ?_; rintro e w3 ⟨rfl, rfl⟩)
          | (go_simp; go_at_call 84; refine (CS.out _).mono ?_; rintro e w3 ⟨rfl, rfl⟩)
          | (go_simp; go_at_call 82; refine (CO.out _ _ (by first | assumption | exact (pair_new ..).1 | exact (pair_new W2 ..).1) (by first | assumption | exact (pair_new ..).2 | exact (pair_new W2 ..).2)).mono ?_; rintro e w3 ⟨rfl, rfl⟩))
      all_goals go_wp2_with fail
      all_goals go_meet
      all_goals exact ⟨rfl, Lib.hid ((below_new W2 _).drew)⟩
    case rest =>
      obtain ⟨rfl, HBC⟩ := hcut
      have X := HX.out.on HBC.out
      have Y := HY.out.on HBC.out
      have x0 := X.c0
      have x1 := X.c1
      have x2 := X.c2
      have x3 := X.c3
      have y0 := Y.c0
      have y1 := Y.c1
      have y2 := Y.c2
      have y3 := Y.c3
      have HBW := Lib.hid (below_tr HB2.out HBC.out)
      clear X Y CO CS CK
      obtain ⟨o, HO⟩ : ∃ o, Hid (o = p.then q) := ⟨_, Lib.hid rfl⟩
      have HFU := Lib.hid (show R = o.then (cmpL (if k = 8 then (entL l ks).map (fun p => can p.2) else canL l) (if k = 8 then (entL l ks).map Prod.fst else ks) (if k' = 8 then (entL l' ks').map (fun p => can p.2) else canL l') (if k' = 8 then (entL l' ks').map Prod.fst else ks')) from by
        have e1 : can (.mk k t l ks) = .mk k t (if k = 8 then (entL l ks).map (fun p => can p.2) else canL l) (if k = 8 then (entL l ks).map Prod.fst else ks) := by
          by_cases h : k = 8
          · subst h; rw [can_ent (PX.out.2.2.1 rfl)]; simp
          · rw [can_no h, if_neg h, if_neg h]
        have e2 : can (.mk k' t' l' ks') = .mk k' t' (if k' = 8 then (entL l' ks').map (fun p => can p.2) else canL l') (if k' = 8 then (entL l' ks').map Prod.fst else ks') := by
          by_cases h : k' = 8
          · subst h; rw [can_ent (PY.out.2.2.1 rfl)]; simp
          · rw [can_no h, if_neg h, if_neg h]
        rw [HR.out, fV, e1, e2, cmp_full, HO.out, HP.out, HQ.out])
      rw [← HO.out]
      cases o with
      | lt =>
        have HF := Lib.hid (show R = .lt from HFU.out)
        simp only [oN]
        go_wp2_with fail
        go_ret
        exact ⟨by rw [HF.out]; rfl, HBW.out⟩
      | gt =>
        have HF := Lib.hid (show R = .gt from HFU.out)
        simp only [oN]
        go_wp2_with fail
        go_ret
        exact ⟨by rw [HF.out]; rfl, HBW.out⟩
      | eq =>
        obtain ⟨rfl, rfl⟩ : k = k' ∧ t = t' := by
          have h9 := then_eq2 HO.out.symm
          exact ⟨ncmp_eq (by rw [← HP.out]; exact h9.1), bcmp_eq (by rw [← HQ.out]; exact h9.2)⟩
        simp only [oN]
        by_cases h8 : k = 8
        · subst h8
          have HF := Lib.hid (show cmpG fE (entL l ks) (entL l' ks') = R from by rw [← cmpL_E, HFU.out]; simp)
          have CC := Lib.hid (fun (w' : World) (A1 A2 : Option Addr) (c1 c2 : Nat) (h1 : Er w' (fun _ => True) A1 (entL l ks)) (h2 : Er w' (fun _ => True) A2 (entL l' ks')) => by
            have := cmpE_any (c := c1) (c' := c2) fE w' h1 h2 (by rw [entL_len]; exact HN0.out.2.2.1) (by rw [entL_len]; exact HN0.out.2.2.2) (fun i s x s' y e e' w3 hi hj hs hs' hx hy hb => by
              rw [entL, List.getElem?_map] at hi hj
              obtain ⟨a, ha, e9⟩ := Option.map_eq_some_iff.1 hi
              obtain ⟨b, hb', e8⟩ := Option.map_eq_some_iff.1 hj
              have ha2 := ord_mem.1 (List.mem_of_getElem? ha)
              have hb2 := ord_mem.1 (List.mem_of_getElem? hb')
              obtain ⟨x2, hx2⟩ := get_lt (l := l) (i := a) (by rw [← PX.out.2.2.1 rfl]; exact ha2)
              obtain ⟨y2, hy2⟩ := get_lt (l := l') (i := b) (by rw [← PY.out.2.2.1 rfl]; exact hb2)
              have ex : x2 = x := Eq.trans (show x2 = l.getD a v0 by rw [List.getD_eq_getElem?_getD, hx2]; rfl) (congrArg Prod.snd e9)
              have ey : y2 = y := Eq.trans (show y2 = l'.getD b v0 by rw [List.getD_eq_getElem?_getD, hy2]; rfl) (congrArg Prod.snd e8)
              rw [ex] at hx2
              rw [ey] at hy2
              subst hs hs'
              exact entO_any w3 hx hy (fun w4 hb4 => IH.out a b x y hx2 hy2 w4 _ _ (hx.on hb4) (hy.on hb4)))
            rw [entL_len, entL_len, ← HM.out, ← HM'.out, HF.out] at this
            exact this)
          have CE1 := Lib.hid (show ∀ w' : World, Below w.heap.size w w' → Calls Tryz.prog 86 #[.agg #[.int .u8 8, .string T, .slice A n c, .slice B m d]] w' fun e w2 => (∃ A c, e = .returned (.slice A m c) ∧ Er w2 (fun _ => True) A (entL l ks)) ∧ Below w'.heap.size w' w2 from EX.out rfl)
          have CE2 := Lib.hid (show ∀ w' : World, Below w.heap.size w w' → Calls Tryz.prog 86 #[.agg #[.int .u8 8, .string T', .slice A' n' c', .slice B' m' d']] w' fun e w2 => (∃ A c, e = .returned (.slice A m' c) ∧ Er w2 (fun _ => True) A (entL l' ks')) ∧ Below w'.heap.size w' w2 from EY.out rfl)
          clear EX EY IH HFU HO
          go_upto_region 5 with fail
          have SS := Lib.hid (fun (X Y : World) (h1 : Below W2.heap.size W2 X ∧ X.cell? ⟨h, 0, none⟩ = some (.int .u8 8) ∧ X.cell? ⟨h, 1, none⟩ = some (.string T) ∧ X.cell? ⟨h, 2, none⟩ = some (.slice A n c) ∧ X.cell? ⟨h, 3, none⟩ = some (.slice B m d) ∧ X.cell? ⟨h2, 0, none⟩ = some (.int .u8 8) ∧ X.cell? ⟨h2, 1, none⟩ = some (.string T') ∧ X.cell? ⟨h2, 2, none⟩ = some (.slice A' n' c') ∧ X.cell? ⟨h2, 3, none⟩ = some (.slice B' m' d')) (hb : Below X.heap.size X Y) =>
            show Below W2.heap.size W2 Y ∧ Y.cell? ⟨h, 0, none⟩ = some (.int .u8 8) ∧ Y.cell? ⟨h, 1, none⟩ = some (.string T) ∧ Y.cell? ⟨h, 2, none⟩ = some (.slice A n c) ∧ Y.cell? ⟨h, 3, none⟩ = some (.slice B m d) ∧ Y.cell? ⟨h2, 0, none⟩ = some (.int .u8 8) ∧ Y.cell? ⟨h2, 1, none⟩ = some (.string T') ∧ Y.cell? ⟨h2, 2, none⟩ = some (.slice A' n' c') ∧ Y.cell? ⟨h2, 3, none⟩ = some (.slice B' m' d') from
              have l1 := World.block_lt_of_cell? X _ h1.2.1
              have l2 := World.block_lt_of_cell? X _ h1.2.2.2.2.2.1
              ⟨below_tr h1.1 hb, cell_old hb l1 h1.2.1, cell_old hb l1 h1.2.2.1, cell_old hb l1 h1.2.2.2.1, cell_old hb l1 h1.2.2.2.2.1, cell_old hb l2 h1.2.2.2.2.2.1, cell_old hb l2 h1.2.2.2.2.2.2.1, cell_old hb l2 h1.2.2.2.2.2.2.2.1, cell_old hb l2 h1.2.2.2.2.2.2.2.2⟩)
          have S0 := Lib.hid (show Below W2.heap.size W2 wc.drew ∧ wc.drew.cell? ⟨h, 0, none⟩ = some (.int .u8 8) ∧ wc.drew.cell? ⟨h, 1, none⟩ = some (.string T) ∧ wc.drew.cell? ⟨h, 2, none⟩ = some (.slice A n c) ∧ wc.drew.cell? ⟨h, 3, none⟩ = some (.slice B m d) ∧ wc.drew.cell? ⟨h2, 0, none⟩ = some (.int .u8 8) ∧ wc.drew.cell? ⟨h2, 1, none⟩ = some (.string T') ∧ wc.drew.cell? ⟨h2, 2, none⟩ = some (.slice A' n' c') ∧ wc.drew.cell? ⟨h2, 3, none⟩ = some (.slice B' m' d') from ⟨HBC.out.drew, x0, x1, x2, x3, y0, y1, y2, y3⟩)
          go_region_held_law (fun X => Below W2.heap.size W2 X ∧ X.cell? ⟨h, 0, none⟩ = some (.int .u8 8) ∧ X.cell? ⟨h, 1, none⟩ = some (.string T) ∧ X.cell? ⟨h, 2, none⟩ = some (.slice A n c) ∧ X.cell? ⟨h, 3, none⟩ = some (.slice B m d) ∧ X.cell? ⟨h2, 0, none⟩ = some (.int .u8 8) ∧ X.cell? ⟨h2, 1, none⟩ = some (.string T') ∧ X.cell? ⟨h2, 2, none⟩ = some (.slice A' n' c') ∧ X.cell? ⟨h2, 3, none⟩ = some (.slice B' m' d'))
            (first | exact S0.out | exact SS.out _ _ (by assumption) (by assumption))
            (first
              | (go_simp; go_at_call 86; with_reducible refine (CE1.out _ (below_tr HB2.out (And.left (by assumption)))).mono ?_; rintro e w3 ⟨⟨A1, c1, rfl, hE1⟩, hb⟩; have HE1 := Lib.hid hE1; clear hE1)
              | (go_simp; go_at_call 86; with_reducible refine (CE2.out _ (below_tr HB2.out (And.left (by assumption)))).mono ?_; rintro e w3 ⟨⟨A2, c2, rfl, hE2⟩, hb⟩; have HE2 := Lib.hid hE2; clear hE2)
              | (go_simp; go_at_call 85; refine (CC.out _ _ _ _ _ (by first | exact HE1.out | exact HE1.out.on (by assumption)) (by first | exact HE2.out | exact HE2.out.on (by assumption))).mono ?_; rintro e w3 ⟨rfl, hb⟩))
          all_goals go_wp2_with fail
          all_goals go_ret
          all_goals exact ⟨by first | rfl | trivial, below_tr HB2.out (And.left (by assumption))⟩
        · have f8 : ((k : Int) == 8) = false := beq_eq_false_iff_ne.2 (by omega)
          have HF := Lib.hid (show cmpG fV l l' = R from by
            rw [← cmpL_G, HFU.out, if_neg h8, if_neg h8, if_neg h8, if_neg h8, PX.out.2.1.resolve_left h8, PY.out.2.1.resolve_left h8]; rfl)
          have CC := Lib.hid (fun (w' : World) (hb : Below w.heap.size w w') => by
            have := cmpF_any (c := c) (c' := c') fV w' (HV.out.on hb) (HV'.out.on hb) HN0.out.1 HN0.out.2.1 (fun i x y v u w3 hi hj hx hy hb3 => IH.out i i x y hi hj w3 v u hx hy)
            rw [← HN.out, ← HN'.out, HF.out] at this
            exact this)
          clear EX EY IH HFU HO h8
          go_wp2_with fail
          refine (CC.out _ HBW.out).mono ?_
          rintro e w3 ⟨rfl, hb⟩
          have HB3 := Lib.hid (below_tr HBW.out hb)
          clear hb
          go_wp2_with fail
          go_ret
          exact ⟨by first | rfl | trivial, HB3.out⟩
end Va
end Go.Proofs.YtggeiajbcehkjaaGreatDoor
/- What landed of values: the library's iterator over a map's keys, its sorted keys. -/
namespace Go.Proofs.YtggeiajbcehkjaaGreatDoor
open Go.RowKit Go.Shelf
attribute [local go_sem] Oper.semAt_some
namespace Va
set_option maxRecDepth 100000

theorem takeW_more {l : List Bs} {k : Nat} {t : Bs} (h : l[k]? = some t) : l.take (k + 1) = l.take k ++ [t] := by rw [List.take_add_one, h]; rfl
set_option maxHeartbeats 4000000 in
/-- The iterator over a row of texts. -/
theorem vals1_in (F : Fence) (n : Nat) (hf : F.fn 116) (hro : F.round = none) (hn : 1 ≤ n) (l q n0 m cap : Nat) (A : Option Addr) (ks : List Bs) (hm : m = ks.length) (hmb : m ≤ 1000000) (hb : 0 < ks.length → ∀ g o, A = some ⟨g, o, none⟩ → g < n0) (J Jx : List Bs → World → Prop)
    (hY : ∀ pre x W, J pre W → pre.length < ks.length → YieldAt F (n - 1) Tryz.prog l #[.string (txt x)] W fun e W' => (e = .returned (.bool true) ∧ J (pre ++ [x]) W' ∧ Below n0 W W') ∨ (e = .returned (.bool false) ∧ Jx (pre ++ [x]) W'))
    (W : World) (hq : W.cell? ⟨q, 0, none⟩ = some (.slice A m cap)) (hK : Tx W A ks) (h0 : J [] W) :
    CallsIn F n Tryz.prog 116 #[.func (.yield l) #[] #[], .pointer (some ⟨q, 0, none⟩)] W fun e W' => (∃ v, e = .returned v) ∧ ((∃ ys, ys = ks ∧ J ys W') ∨ (∃ pre, pre <+: ks ∧ Jx pre W')) := by
  have HY := Lib.hid hY
  have HK := Lib.hid hK
  have HM := Lib.hid hm
  have HB := Lib.hid hb
  clear hY hK hm hb
  refine callsIn_of_wp Tryz.func116 rfl hf ?_ hro
  simp only [Tryz.ntmps116, List.size_toArray, List.length_cons, List.length_nil, Nat.reduceAdd, Nat.reduceSub, Array.replicate_succ, Array.replicate_zero, List.push_toArray, List.append_toArray, List.nil_append, List.cons_append]
  gi_wp2
  gi_loopw [4, 7] (fun _ i wr => ∃ k : Nat, k ≤ m ∧ i = .int .i64 k ∧ Hid (J (ks.take k) wr ∧ Below n0 W wr)) (fun _ i _ => m - (intOf i).toNat)
  case atStart => exact ⟨0, Nat.zero_le _, rfl, Lib.hid ⟨by rw [List.take_zero]; exact h0, Below.refl _ _⟩⟩
  case round =>
    obtain ⟨k, hk, rfl, HQ⟩ := hrel
    by_cases hlt : k < m
    · obtain ⟨t, ht⟩ := get_lt (l := ks) (i := k) (by rw [← HM.out]; exact hlt)
      obtain ⟨g, o, rfl, hg, hf1⟩ := HK.out (by rw [← HM.out]; omega)
      have hcx : wr.cell? ⟨g, o + k, none⟩ = some (.string (txt t)) := (HQ.out.2.cell (p := ⟨g, o + k, none⟩) (HB.out (by rw [← HM.out]; omega) _ _ rfl)).trans (hf1 k t ht)
      obtain ⟨fn, tmps, assign, body, hy, hR⟩ := HY.out _ t wr HQ.out.1 (by rw [List.length_take, ← HM.out]; omega)
      have HE := Lib.hid (takeW_more ht)
      have HTK := Lib.hid ht
      obtain ⟨T, hT⟩ : ∃ T, T = txt t := ⟨_, rfl⟩
      rw [← hT] at hcx hy
      clear ht hf1 hT
      gi_wp2
      refine hR.mono ?_
      rintro e W3 (⟨rfl, hJ3, hk3⟩ | ⟨rfl, hJx3⟩)
      · have HQ3 := Lib.hid (show J (ks.take (k + 1)) W3 ∧ Below n0 W W3 from ⟨by rw [HE.out]; exact hJ3, HQ.out.2.trans hk3⟩)
        clear hJ3 hk3 hR hy hcx
        gi_wp2
        go_roundw
        case rel => exact ⟨k + 1, by omega, by go_num, HQ3⟩
        case measure => simp [intOf]; omega
      · have HX3 := Lib.hid (show ∃ pre, pre <+: ks ∧ Jx pre W3 from ⟨_, by rw [← HE.out]; exact List.take_prefix _ _, hJx3⟩)
        clear hJx3 hR hy hcx
        gi_wp2
        refine bodyPost_ret (results_none rfl _ _ _) rfl ?_
        exact ⟨⟨_, rfl⟩, .inr HX3.out⟩
    · have HE := Lib.hid (show J ks wr from by have := HQ.out.1; rw [List.take_of_length_le (by rw [← HM.out]; omega)] at this; exact this)
      gi_wp2
      go_end0
      exact ⟨⟨_, rfl⟩, .inl ⟨_, rfl, HE.out⟩⟩
set_option maxHeartbeats 4000000 in
/-- slices.Values: the slice in a box; the function value holds the box. -/
theorem values_in (F : Fence) (n : Nat) (hf : F.fn 96) (hro : F.round = none) (A : Option Addr) (m cap : Nat) (w : World) :
    CallsIn F n Tryz.prog 96 #[.slice A m cap] w fun e w' => e = .returned (.func (.func 116) #[] #[.pointer (some ⟨w.heap.size, 0, none⟩)]) ∧ w' = w.alloc (.cells #[.slice A m cap] 31) := by
  refine callsIn_of_wp Tryz.func96 rfl hf ?_ hro
  simp only [Tryz.ntmps96, List.size_toArray, List.length_cons, List.length_nil, Nat.reduceAdd, Nat.reduceSub, Array.replicate_succ, Array.replicate_zero, List.push_toArray, List.append_toArray, List.nil_append, List.cons_append]
  gi_wp2
  go_ret
  exact ⟨rfl, rfl⟩
theorem vals_stops (F : Fence) (n : Nat) (hf : F.fn 116) (hro : F.round = none) (hn : 1 ≤ n) (q n0 m cap : Nat) (A : Option Addr) (ks : List Bs) (w : World) (hq0 : q < w.heap.size) (_hn0 : n0 ≤ w.heap.size) (hm : m = ks.length) (hmb : m ≤ 1000000) (hb : 0 < ks.length → ∀ g o, A = some ⟨g, o, none⟩ → g < n0)
    (hq : w.cell? ⟨q, 0, none⟩ = some (.slice A m cap)) (hK : Tx w A ks) :
    SeqStopsK F n Tryz.prog 116 #[.pointer (some ⟨q, 0, none⟩)] (fun x : Bs => #[Value.string (txt x)]) (Below n0) (fun ys => ys = ks) (fun pre => pre <+: ks) ks.length w := fun l J Jx W hW _ _ hY h0 =>
  vals1_in F n hf hro hn l q n0 m cap A ks hm hmb hb J Jx hY W ((hW.cell (p := ⟨q, 0, none⟩) hq0).trans hq) (hK.on hW) h0
set_option maxHeartbeats 4000000 in
/-- slices.AppendSeq onto nothing, of what slices.Values has handed back. -/
theorem appSeq_in (F : Fence) (n : Nat) (h86 : F.fn 129) (h75 : F.fn 116) (hro : F.round = none) (hn : 3 ≤ n) (q m cap : Nat) (A : Option Addr) (ks : List Bs) (w : World) (hq0 : q < w.heap.size) (hm : m = ks.length) (hmb : m ≤ 1000000) (hb : 0 < ks.length → ∀ g o, A = some ⟨g, o, none⟩ → g < w.heap.size)
    (hq : w.cell? ⟨q, 0, none⟩ = some (.slice A m cap)) (hK : Tx w A ks) :
    CallsIn F n Tryz.prog 129 #[.slice none 0 0, .func (.func 116) #[] #[.pointer (some ⟨q, 0, none⟩)]] w fun e W' => ∃ v, e = .returned v ∧ W'.ownsRow w.heap.size 9 1 v ks.length (ks.map fun t => .string (txt t)) ∧ Below w.heap.size w W' := by
  have h1 : 1 ≤ n := by omega
  obtain ⟨i0, hi, hz0, hz1, hz2⟩ := info_parts (show (Tryz.prog.info? 9).map (fun i => (i.zero, i.size, i.bytes)) = some (some (.string ⟨#[]⟩), 1, 16) by kernel_rfl)
  refine callsIn_of_wp_marks Tryz.func129 rfl h86 ?_ hro
  simp only [Tryz.ntmps129, List.size_toArray, List.length_cons, List.length_nil, Nat.reduceAdd, Nat.reduceSub, Array.replicate_succ, Array.replicate_zero, List.push_toArray, List.append_toArray, List.nil_append, List.cons_append]
  gi_wp2
  have bO := Boxed.new w 31 (.slice none 0 0)
  have hB0 : Below w.heap.size w (w.alloc (.cells #[.slice none 0 0] 31)) := (Below.refl _ w).alloc (Nat.le_refl _) _
  refine wpIn_rangeFunc_ownG hro h1 (gf := 116) (lb := #[.pointer (some ⟨q, 0, none⟩)]) rfl h75 (enters_of Tryz.func116 (by kernel_rfl) rfl)
    (vals_stops F (n - 1) h75 hro (by omega) q w.heap.size m cap A ks _ (by simp; omega) (by simp) hm hmb hb ((hB0.cell (p := ⟨q, 0, none⟩) hq0).trans hq) (hK.on hB0)) belowK_t (belowK_b (by simp)) (Below.refl _ _) (fun _ => rfl)
    (fun (pre : List Bs) W => (∃ v, Boxed W w.heap.size 31 v ∧ W.ownsRow w.heap.size 9 1 v pre.length (pre.map fun t => .string (txt t)) ∧ True) ∧ Below w.heap.size w W)
    (fun _ _ _ => False)
    (OwnFrom.and (Own.from (holdsRow_own w.heap.size w.heap.size 31 9 1 (fun pre : List Bs => pre.length) (fun pre => pre.map fun t => .string (txt t)) (fun _ _ => True)) _) (ownFrom_below (Nat.le_refl _) (by simp)))
    (fun _ _ _ _ _ hs _ _ => hs)
    ⟨⟨_, bO, World.ownsRow_nil _ _ _ _, trivial⟩, hB0⟩
    (fun x => { tmps := #[.slice none 0 0, .func (.func 116) #[] #[.pointer (some ⟨q, 0, none⟩)], .pointer (some ⟨w.heap.size, 0, none⟩), undef, .slice none 0 0, .string (txt x), .func (.func 116) #[] #[.pointer (some ⟨q, 0, none⟩)], .string (txt x), undef, undef, undef, undef, undef], defers := [] }) ?assign ?body ?done ?stop
  case assign =>
    intro l x W K hK
    gi_wp2
    exact hK
  case body =>
    rintro l pre x W ⟨⟨v, hv, hrow, _⟩, hB⟩ hlt
    have hc := hv.cell
    have hlt2 : pre.length < 1000000 := by omega
    obtain ⟨X, hX⟩ : ∃ X, X = txt x := ⟨_, rfl⟩
    have HXX := Lib.hid hX
    rw [← hX]
    clear hX hlt hq hK hb hm
    gi_wp2_with (gi_at_builtin; refine wpListIn_append_own _ rfl _ _ 31 rfl w.heap.size 9 i0 (.string ⟨#[]⟩) 1 16 Tryz.underlying31 hi hz0 hz1 hz2 rfl (by decide) _ _ _ rfl (hrow.alloc _) ⟨W.heap.size, 0, none⟩ 1 1 [.string X] rfl rfl (cell_one_new _ _ _) (by simp [Value.oneCell']) (by unfold maxLen; omega) (by omega) (by have := hB.size; simp; omega) ?_; intro v' w1 hown' hgrow _; obtain ⟨g', cap', rfl⟩ := ownsRow_succ hown'; obtain ⟨hv1, hv2, hr2, hk2, hb2⟩ := hv.appended (by decide) hrow hB.size (Nat.le_refl _) hown' hgrow; have hc1 := hv1.cell; have hf1 := hv1.frozen)
    exact ⟨hk2.from _, hb2, ⟨_, hv2, by rw [List.length_append, List.map_append]; rw [HXX.out] at hr2; exact hr2, trivial⟩, hB.trans hb2⟩
  case done =>
    rintro D ys W hD rfl ⟨⟨v, hv, hrow, _⟩, hB⟩ hK9
    have hc := hv.cell
    gi_wp2
    refine ⟨by simp, .inl ⟨_, _, rfl, run_takeDeferred hK9, ?_⟩⟩
    exact ⟨_, results_tmp rfl _ _ _, v, rfl, ownsRow_putObj hrow _ hK9 rfl, hB.trans (belowK_b (w := w) (Nat.le_refl _) W D _ _ (by simp at hD; omega) hK9 rfl rfl)⟩
  case stop =>
    rintro D c pre W _ _ h _
    exact h.elim
end Va
end Go.Proofs.YtggeiajbcehkjaaGreatDoor
