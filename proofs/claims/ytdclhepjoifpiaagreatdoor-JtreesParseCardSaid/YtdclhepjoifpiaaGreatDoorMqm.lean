/- The document's parser: an entry of a map. -/
import Derived.Test.YtdclhepjoifpiaaGreatDoorMcm
import Derived.Test.YtdclhepjoifpiaaGreatDoorMdm
import Derived.Test.YtdclhepjoifpiaaGreatDoorKtm
import Derived.Test.YtdclhepjoifpiaaGreatDoorBn
namespace Go.Proofs.YtdclhepjoifpiaaGreatDoor
open Go.RowKit
namespace Jt
namespace R9
open Jk (lt_blk below_tr TkR fvO)

section
variable {W w w' : World} {P : Nat} {bv lv tv : Value} {en : Nat × Nat} {a fc fa : Nat} {lab : Nat → Own} {X : List Nx}
variable {l : Bs} {S : List Tok} {A AL : Option Addr} {n c N cL : Nat} {t : Tok} {me : Nat} {x : Nx}
/-- What take leaves. -/
def TakeP (W : World) (P : Nat) (bv lv : Value) (en : Nat × Nat) (a : Nat) (tv : Value) (lab : Nat → Own) (X : List Nx) (l : Bs) (S : List Tok) (y : Int) (e : Ending) (w' : World) : Prop :=
  match S.drop a with
  | [] => e = .returned (.bool false) ∧ RP W w' P bv lv en a tv en.1 en.2 lab X
  | t :: _ => if mkB l t y = true then e = .returned (.bool true) ∧ RP W w' P bv lv en (a + 1) tv 0 0 lab X else e = .returned (.bool false) ∧ RP W w' P bv lv en a tv 3 t.2.1 lab X
theorem drop_at {a : Nat} {t : Tok} (h : S[a]? = some t) : S.drop a = t :: S.drop (a + 1) := by
  obtain ⟨ha, rfl⟩ := List.getElem?_eq_some_iff.1 h
  exact List.drop_eq_getElem_cons ha
theorem drop_no {a : Nat} (h : ¬ a < S.length) : S.drop a = [] := List.drop_eq_nil_of_le (by omega)
theorem RE.len (H : RE W P l S A AL n c N cL) : N = S.length := H.htk.1
theorem take_any (H : RE W P l S A AL n c N cL) (R : RP W w P (.slice A n c) (.slice AL N cL) en a tv 0 0 lab X) (y : Int) :
    Calls Tryz.prog 55 #[.pointer (some ⟨P, 0, none⟩), .int .u8 y] w (TakeP W P (.slice A n c) (.slice AL N cL) en a tv lab X l S y) := by
  unfold TakeP
  by_cases h : a < N
  · obtain ⟨t, ht⟩ : ∃ t, S[a]? = some t := ⟨_, List.getElem?_eq_getElem (by have := H.len; omega)⟩
    rw [drop_at ht]
    cases hy : mkB l t y with
    | true =>
      refine (take_yes H R ht y hy).mono fun e w' h => ?_
      show if mkB l t y = true then _ else _
      rw [if_pos hy]; exact h
    | false =>
      refine (take_bad H R ht y hy).mono fun e w' h => ?_
      show if mkB l t y = true then _ else _
      rw [if_neg (by rw [hy]; exact Bool.false_ne_true)]; exact h
  · rw [drop_no (by have := H.len; omega)]
    exact take_no R h H.hsN y
/-- A node of the tree, to read. -/
theorem RP.node (R : RP W w P bv lv en a tv fc fa lab X) (hx : X[me]? = some x) : ∃ g cX, tv = .slice (some ⟨g, 0, none⟩) X.length cX ∧ tv.ownBlock = some g ∧ W.heap.size ≤ g ∧ g < w.heap.size ∧ X.length ≤ cX ∧ cX ≤ maxLen ∧ (∀ k, w.frozen? ⟨g, k, none⟩ = false) ∧
    (∀ r u, (ndC x)[r]? = some u → w.cell? ⟨g, me * 7 + r, none⟩ = some u) ∧ ∀ j, j < 3 → w.ownsRow W.heap.size (ety j) (esz j) (x.v j) (ecn x.nd j) (ecs x.nd j) := by
  have h0 : 0 < X.length := by have := (List.getElem?_eq_some_iff.1 hx).1; omega
  obtain ⟨g, cX, e, h1, h2, h3, h4, h5, h6⟩ := R.nt.shape h0
  exact ⟨g, cX, e, by rw [e]; rfl, h1, h2, h3, h4, h5, fun r u hu => h6 me x hx r u hu, fun j hj => (R.nt.e me x hx j hj).o trivial⟩
/-- The nodes' row stays where one of a node's rows grows. -/
theorem RP.kept {j g : Nat} (R : RP W w P bv lv en a tv fc fa lab X) (hx : X[me]? = some x) (hj : j < 3) (hvb : tv.ownBlock = some g) {w7 : World} {o : Obj} (hg : (w.alloc o).grownBy w7 (x.v j).ownBlock) : w7.heap[g]? = w.heap[g]? := by
  have hgl := R.nt.lt g hvb
  rw [hg.block g (by rw [alloc_size]; omega) (fun e => by
    have l1 := (R.nt.e me x hx j hj).l g e.symm
    rw [R.nt.l g hvb] at l1; cases l1)]
  exact (World.grownBy_alloc w o none).block g hgl.2 (by simp)
/-- A block that the tree does not hold stays where one of a node's rows grows. -/
theorem RP.keptB {j g b k : Nat} {u : Value} (_R : RP W w P bv lv en a tv fc fa lab X) (_hx : X[me]? = some x) (_hj : j < 3) {w7 : World} {o : Obj} (hg : (w.alloc o).grownBy w7 (x.v j).ownBlock) (hb : b < w.heap.size) (hne : b ≠ g) (ho : (x.v j).ownBlock ≠ some b) : (w7.setCell ⟨g, k, none⟩ u).heap[b]? = w.heap[b]? := by
  rw [heap_setCell_other _ _ _ _ hne, hg.block b (by rw [alloc_size]; omega) (fun e => ho e.symm)]
  exact (World.grownBy_alloc w o none).block b hb (by simp)
theorem ent_kind {E : Env} {ks : List Bs} {t : Tok} {r : List Tok} (h : t.1 ≠ 4) : entry E true ks (t :: r) = .bad 3 t.2.1 := by
  unfold entry
  rw [if_neg (by decide)]
  simp only
  rw [if_neg h]
theorem ent_bad {E : Env} {ks : List Bs} {t : Tok} {r : List Tok} {c k : Nat} (h : t.1 = 4) (hq : E.rq (E.by t) = .error (c, k)) : entry E true ks (t :: r) = .bad c (t.2.1 + k) := by
  unfold entry
  rw [if_neg (by decide)]
  simp only
  rw [if_pos h, hq]
theorem ent_dup {E : Env} {ks : List Bs} {t : Tok} {r : List Tok} {s : Bs} (h : t.1 = 4) (hq : E.rq (E.by t) = .ok s) (hd : s ∈ ks) : entry E true ks (t :: r) = .bad 5 t.2.1 := by
  unfold entry
  rw [if_neg (by decide)]
  simp only
  rw [if_pos h, hq]
  simp only
  rw [if_pos hd]
theorem ent_nil {E : Env} {ks : List Bs} {t : Tok} {s : Bs} (h : t.1 = 4) (hq : E.rq (E.by t) = .ok s) (hd : ¬ s ∈ ks) : entry E true ks [t] = .bad E.en.1 E.en.2 := by
  unfold entry
  rw [if_neg (by decide)]
  simp only
  rw [if_pos h, hq]
  simp only
  rw [if_neg hd]
theorem ent_mk {E : Env} {ks : List Bs} {t u : Tok} {r : List Tok} {s : Bs} (h : t.1 = 4) (hq : E.rq (E.by t) = .ok s) (hd : ¬ s ∈ ks) : entry E true ks (t :: u :: r) = if E.mk? u 58 = true then .ok (s, t.2) r else .bad 3 u.2.1 := by
  unfold entry
  rw [if_neg (by decide)]
  simp only
  rw [if_pos h, hq]
  simp only
  rw [if_neg hd]
/-- What entry leaves. -/
def EntP (W : World) (P : Nat) (bv lv : Value) (en : Nat × Nat) (a : Nat) (tv : Value) (X : List Nx) (me : Nat) (l : Bs) (S : List Tok) (ks : List Bs) (e : Ending) (w' : World) : Prop :=
  match entry (envL l en) true ks (S.drop a) with
  | .ok (k, sp) r => e = .returned (.bool true) ∧ ∃ a' lab' X', RP W w' P bv lv en a' tv 0 0 lab' X' ∧ S.drop a' = r ∧ X'.map Nx.nd = (X.map Nx.nd).modify me (Nd.addKey k sp) ∧ a < a' ∧ a' ≤ S.length
  | .bad c k => e = .returned (.bool false) ∧ ∃ a' lab' X', RP W w' P bv lv en a' tv c k lab' X'
  | .out => False
set_option maxHeartbeats 16000000 in
set_option maxRecDepth 100000 in
theorem entry_any (H : RE W P l S A AL n c N cL) (R : RP W w P (.slice A n c) (.slice AL N cL) en a tv 0 0 lab X) (hx : X[me]? = some x) :
    Calls Tryz.prog 56 #[.pointer (some ⟨P, 0, none⟩), .int .i64 (me : Nat)] w (EntP W P (.slice A n c) (.slice AL N cL) en a tv X me l S x.nd.keys) := by
  have hNS := H.len
  have hN6 := H.hsN
  have hn6 := H.hsm
  by_cases haN : a < N
  case neg =>
    have hE : entry (envL l en) true x.nd.keys (S.drop a) = .bad en.1 en.2 := by rw [drop_no (by omega)]; rfl
    have HE := Lib.hid hE
    have HM := Lib.hid (more_no R haN hN6)
    clear R hE hx
    go_enter Tryz.func56, Tryz.ntmps56
    go_wp2_with (go_at_call 33; refine HM.out.mono ?_; rintro e w2 ⟨rfl, R2⟩)
    go_ret
    unfold EntP
    rw [HE.out]
    exact ⟨rfl, _, _, _, R2⟩
  obtain ⟨t, ht⟩ : ∃ t, S[a]? = some t := ⟨_, List.getElem?_eq_getElem (by omega)⟩
  have hdr := drop_at ht
  obtain ⟨iS, hS, hS0, hS1, hS2⟩ := info_parts (show (Tryz.prog.info? 42).map (fun i => (i.zero, i.size, i.bytes)) = some (some (.agg #[.int .i64 0, .int .i64 0]), 2, 16) by kernel_rfl)
  obtain ⟨i9, h9, h90, h91, h92⟩ := info_parts (show (Tryz.prog.info? 9).map (fun i => (i.zero, i.size, i.bytes)) = some (some (.string ⟨#[]⟩), 1, 16) by kernel_rfl)
  have HM := Lib.hid (more_yes R haN hN6)
  have HRR := Lib.hid (fun (wx : World) (hb : Below w.heap.size w wx) => R.on hb)
  obtain ⟨g, eg, hg, hct⟩ := (H.on R).2.at_ (by omega)
  subst eg
  obtain ⟨q1, q2, q3⟩ := hct a t ht
  have htm := H.hok t (List.mem_of_getElem? ht)
  have HH := Lib.hid H
  have HX := Lib.hid hx
  have HD := Lib.hid hdr
  have HT := Lib.hid ht
  have hPl := R.plt
  have hTQ := Lib.hid (fun (wx : World) (hb : Below w.heap.size w wx) => show (wx.cell? ⟨g, a * 3, none⟩ = some (.int .i64 (t.1 : Nat)) ∧ wx.cell? ⟨g, a * 3 + 1, none⟩ = some (.int .i64 (t.2.1 : Nat)) ∧ wx.cell? ⟨g, a * 3 + 1 + 1, none⟩ = some (.int .i64 (t.2.2 : Nat))) ∧ g < wx.heap.size from
    ⟨⟨(hb.cell (p := ⟨g, a * 3, none⟩) (lt_cell2 q1)).trans q1, (hb.cell (p := ⟨g, a * 3 + 1, none⟩) (lt_cell2 q2)).trans q2, (hb.cell (p := ⟨g, a * 3 + 1 + 1, none⟩) (lt_cell2 q3)).trans q3⟩, by have h1 := lt_cell2 q1; have h2 := hb.size; omega⟩)
  obtain ⟨kd, F, E⟩ := t
  simp only at hTQ htm
  clear R H hct ht hdr q1 q2 q3 hg hx
  go_enter Tryz.func56, Tryz.ntmps56
  go_upto_region 3 with (go_at_call 33; refine HM.out.mono ?_; rintro e w2 ⟨rfl, hb2⟩)
  obtain ⟨⟨q1, q2, q3⟩, hgl⟩ := hTQ.out _ hb2
  have R2 := HRR.out _ hb2
  obtain ⟨c0, c1, c2, c3, c4, _⟩ := R2.cells
  have hP2 := R2.plt
  have HR2 := Lib.hid R2
  have c1' : ∀ o, (w2.alloc o).cell? ⟨P, 1, none⟩ = _ := fun o => (World.cell?_alloc_lt _ _ _ hP2).trans c1
  have c4' : ∀ o, (w2.alloc o).cell? ⟨P, 4, none⟩ = _ := fun o => (World.cell?_alloc_lt _ _ _ hP2).trans c4
  have q1' : ∀ o, (w2.alloc o).cell? ⟨g, a * 3, none⟩ = _ := fun o => (World.cell?_alloc_lt _ _ _ hgl).trans q1
  have q2' : ∀ o, (w2.alloc o).cell? ⟨g, a * 3 + 1, none⟩ = _ := fun o => (World.cell?_alloc_lt _ _ _ hgl).trans q2
  have q3' : ∀ o, (w2.alloc o).cell? ⟨g, a * 3 + 1 + 1, none⟩ = _ := fun o => (World.cell?_alloc_lt _ _ _ hgl).trans q3
  clear R2 c0 c2 c3 hb2
  go_region
  clear c1 c4 q1 q2 q3 c1' c4' q1' q2' q3'
  go_upto_region 4 with fail
  obtain ⟨V1, hV1⟩ : ∃ V, V = (w2.alloc (.cells #[.int .i64 (kd : Nat), .int .i64 (F : Nat), .int .i64 (E : Nat)] 72)).drew := ⟨_, rfl⟩
  have hT1 : TB w2 V1 kd F E := by rw [hV1]; exact ⟨TB.start.below.drew, TB.start.o⟩
  rw [← hV1]
  clear hV1
  have HT1 := Lib.hid hT1
  have R3 := HR2.out.on hT1.below
  have HR3 := Lib.hid R3
  obtain ⟨z0, z1, z2⟩ := hT1.cells
  clear hT1
  by_cases hk : kd = 4
  case neg =>
    have hkI : ¬ ((kd : Nat) : Int) = 4 := by omega
    have hE : entry (envL l en) true x.nd.keys (S.drop a) = .bad 3 F := by
      rw [HD.out]
      exact ent_kind hk
    have HE := Lib.hid hE
    have HF := Lib.hid (wrong_any (k1 := 3) (k2 := F) R3 (y1 := 3) (y2 := (F : Nat)) rfl rfl)
    clear R3 hE
    go_wp2_with (go_at_call 25; refine HF.out.mono ?_; rintro e w4 ⟨rfl, R4⟩)
    go_ret
    unfold EntP
    rw [HE.out]
    exact ⟨rfl, _, _, _, R4⟩
  subst hk
  have HQ := Lib.hid (quoted_any HH.out R3 HT.out)
  clear R3
  go_wp2_with fail
  refine HQ.out.mono ?_
  rintro e w4 hq
  unfold QP at hq
  cases hrq : rqL (Jt.part l (4, F, E).2) with
  | error ck =>
    obtain ⟨cc, kk⟩ := ck
    rw [hrq] at hq
    obtain ⟨rfl, R4⟩ := hq
    have hE : entry (envL l en) true x.nd.keys (S.drop a) = .bad cc (F + kk) := by
      rw [HD.out]
      exact ent_bad rfl hrq
    have HE := Lib.hid hE
    clear hE hrq
    go_wp2_with fail
    go_ret
    unfold EntP
    rw [HE.out]
    exact ⟨rfl, _, _, _, R4⟩
  | ok s =>
    rw [hrq] at hq
    obtain ⟨rfl, R4, hfr⟩ := hq
    have HRQ := Lib.hid (show (envL l en).rq ((envL l en).by (4, F, E)) = .ok s from hrq)
    have hbt : w4.heap[w2.heap.size]? = some (.cells #[.int .i64 ((4 : Nat) : Int), .int .i64 (F : Nat), .int .i64 (E : Nat)] 72) := by
      rw [hfr _ (lt_blk HT1.out.o) (by have := HR2.out.plt; omega)]; exact HT1.out.o
    have hsz4 : w2.heap.size < w4.heap.size := lt_blk hbt
    have HBT := Lib.hid hbt
    obtain ⟨gN, cX, etv, hnb, hgW, hgl4, hcx, hcm, hfree, hcells, hown⟩ := R4.node HX.out
    subst etv
    have hme : me < X.length := (List.getElem?_eq_some_iff.1 HX.out).1
    obtain ⟨xl, hxl⟩ : ∃ xl, xl = X.length := ⟨_, rfl⟩
    have hr0 := hown 0 (by omega)
    have hr1 := hown 1 (by omega)
    obtain ⟨A0, c0, e0, _⟩ := (Rr.of_own hr0).shape
    obtain ⟨A1, c1, e1, _⟩ := (Rr.of_own hr1).shape
    obtain ⟨n0, hn0⟩ : ∃ n, n = x.nd.keys.length := ⟨_, rfl⟩
    obtain ⟨n1, hn1⟩ : ∃ n, n = x.nd.spots.length := ⟨_, rfl⟩
    replace e0 : x.v 0 = .slice A0 n0 c0 := by rw [hn0]; exact e0
    replace e1 : x.v 1 = .slice A1 n1 c1 := by rw [hn1]; exact e1
    have hfew := HR2.out.few.2 me x HX.out
    rw [← hn0, ← hn1] at hfew
    have hn0a : n0 ≤ 10000 := by omega
    have hn1a : n1 ≤ 10000 := by omega
    have z0' := hcells 2 (.slice A0 n0 c0) (by rw [← e0]; rfl)
    have hkey : ∀ k, k < n0 → ∃ g0 y, A0 = some ⟨g0, 0, none⟩ ∧ x.nd.keys[k]? = some y ∧ w4.cell? ⟨g0, k, none⟩ = some (.string (txt y)) := fun k hk => by
      obtain ⟨y, hy⟩ : ∃ y, x.nd.keys[k]? = some y := ⟨_, List.getElem?_eq_getElem (by omega)⟩
      obtain ⟨g0, c0', e0', q2, q3, q4, q5, q6⟩ := (Rr.of_own hr0).cells (by show 0 < x.nd.keys.length; omega)
      rw [e0] at e0'
      injection e0' with e0' _ _
      exact ⟨g0, y, e0', hy, q6 k _ (strC_at _ _ _ hy)⟩
    have HKEY := Lib.hid hkey
    have HR4 := Lib.hid R4
    have HN0 := Lib.hid hn0
    have HN1 := Lib.hid hn1
    have E0 := Lib.hid e0
    have E1 := Lib.hid e1
    have HXL := Lib.hid hxl
    have HNB := Lib.hid hnb
    have HOWN := Lib.hid (And.intro hr0 hr1)
    have HFREE := Lib.hid hfree
    have HCELLS := Lib.hid hcells
    have c5 := R4.cells.2.2.2.2.2.1
    rw [← hxl] at c5 hme
    have z1 : w4.cell? ⟨w2.heap.size, 1, none⟩ = some (.int .i64 (F : Nat)) := by simp [World.cell?, hbt]
    have z2 : w4.cell? ⟨w2.heap.size, 2, none⟩ = some (.int .i64 (E : Nat)) := by simp [World.cell?, hbt]
    have hxl6 : xl ≤ 10000 := by have := HR2.out.few.1; omega
    obtain ⟨Q, hQ⟩ : ∃ Q, Q = txt s := ⟨_, rfl⟩
    rw [← hQ]
    have HQ2 := Lib.hid hQ
    have hPlt4 := R4.plt
    have HNE := Lib.hid (show w2.heap.size ≠ gN ∧ ∀ j, j < 3 → (x.v j).ownBlock ≠ some w2.heap.size from ⟨fun e => by have := (HR2.out.nt.lt gN hnb).2; omega, fun j hj e => by have := ((HR2.out.nt.e me x HX.out j hj).r.lt _ e).2; omega⟩)
    clear R4 hfr hbt hnb hfree hcells hown hr0 hr1 e0 e1 hn0 hn1 hkey hxl hQ hrq HQ hcx hcm
    go_wp2_with fail
    go_loopw [9] (fun i wr => ∃ k : Nat, k ≤ n0 ∧ i = .int .i64 k ∧ Hid (wr = w4) ∧ Hid (∀ j, j < k → x.nd.keys[j]? ≠ some s)) (fun i _ => n0 - (intOf i).toNat)
    case atStart => exact ⟨0, Nat.zero_le _, rfl, Lib.hid rfl, Lib.hid fun j h => by omega⟩
    case round =>
      obtain ⟨k, hk, rfl, HW4, HNO⟩ := hrel
      obtain rfl := HW4.out
      clear HW4
      by_cases hlt : k < n0
      case pos =>
        obtain ⟨g0, y, rfl, hy, hyc⟩ := HKEY.out k hlt
        obtain ⟨Y, hY⟩ : ∃ Y, Y = txt y := ⟨_, rfl⟩
        rw [← hY] at hyc
        by_cases hys : y = s
        case pos =>
          have hYQ : Y = Q := by rw [hY, HQ2.out, hys]
          subst hYQ
          have HF := Lib.hid (wrong_any (k1 := 5) (k2 := F) HR4.out (y1 := 5) (y2 := (F : Nat)) rfl rfl)
          have HE := Lib.hid (show entry (envL l en) true x.nd.keys (S.drop a) = .bad 5 F by rw [HD.out]; exact ent_dup rfl HRQ.out (hys ▸ List.mem_of_getElem? hy))
          clear hy hY
          go_wp2_with (go_at_call 25; refine HF.out.mono ?_; rintro e w5 ⟨rfl, R5⟩)
          go_ret
          unfold EntP
          rw [HE.out]
          exact ⟨rfl, _, _, _, R5⟩
        have hYQ : (Y.toList == Q.toList) = false := beq_eq_false_iff_ne.2 fun h => hys (lst_inj hY HQ2.out h)
        have HNO2 := Lib.hid (show ∀ j, j < k + 1 → x.nd.keys[j]? ≠ some s from fun j hj => by
          by_cases h : j < k
          · exact HNO.out j h
          · obtain rfl : j = k := by omega
            rw [hy]; exact fun h => hys (Option.some.inj h))
        clear hy hY hys
        go_wp2_with fail
        refine ⟨⟨k + 1, by omega, by go_num, by first | exact Lib.hid rfl | exact Lib.hid trivial, HNO2⟩, ?_⟩
        simp [intOf] <;> omega
      obtain rfl : k = n0 := by omega
      have hnot : ¬ s ∈ x.nd.keys := fun h => by
        obtain ⟨j, hj⟩ := List.getElem?_of_mem h
        exact HNO.out j (by rw [HN0.out]; exact (List.getElem?_eq_some_iff.1 hj).1) hj
      have HNOT := Lib.hid hnot
      have hR0 : wr.ownsRow W.heap.size 9 1 (.slice A0 k c0) k (x.nd.keys.flatMap strC) := by
        have h := HOWN.out.1
        rw [E0.out] at h
        have : ecn x.nd 0 = k := HN0.out.symm
        rw [this] at h; exact h
      have HR0 := Lib.hid hR0
      have HC7 := Lib.hid (show ∀ w7 o, (wr.alloc o).grownBy w7 (Value.slice A0 k c0).ownBlock → w7.cell? ⟨gN, me * 7 + 2, none⟩ = some (.slice A0 k c0) ∧ w7.frozen? ⟨gN, me * 7 + 2, none⟩ = false from fun w7 o hg => by
        have e : w7.heap[gN]? = wr.heap[gN]? := HR4.out.kept HX.out (j := 0) (by omega) HNB.out (by rw [E0.out]; exact hg)
        exact ⟨(World.cell?_of_block (a := ⟨gN, me * 7 + 2, none⟩) e).trans z0', (World.frozen?_of_block (a := ⟨gN, me * 7 + 2, none⟩) e).trans (HFREE.out _)⟩)
      have hbs : W.heap.size ≤ wr.heap.size := HR4.out.size
      clear hnot hR0
      go_upto_region 16 with (at_builtin; refine wpList_append_own_at _ rfl (.tmp 70) (.tmp 72) 38 rfl W.heap.size 9 i9 (.string ⟨#[]⟩) 1 16 Tryz.underlying38 h9 h90 h91 h92 rfl (by decide) _ k (x.nd.keys.flatMap strC) rfl (HR0.out.alloc _) ⟨wr.heap.size, 0, none⟩ 1 1 [.string Q] rfl rfl (cell_one_new _ _ _) (by intro u hu; simp at hu; subst hu; rfl) (by unfold maxLen; omega) (by omega) (by simp; omega) ?_; intro v' w7 hown7 hg7 hnil7 hl7; obtain ⟨c7, f7⟩ := HC7.out _ _ hg7; obtain ⟨vA, vc, rfl, _⟩ := (Rr.of_own hown7).shape; clear hnil7)
      have HF := Lib.hid (HR4.out.field (j := 0) (nd' := { x.nd with keys := x.nd.keys ++ [s] }) HX.out (by omega) (by rw [E0.out]; exact hg7) (by
          show w7.ownsRow W.heap.size 9 1 _ (x.nd.keys ++ [s]).length ((x.nd.keys ++ [s]).flatMap strC)
          rw [List.length_append, List.flatMap_append, ← HN0.out]
          have e : strC s = [.string Q] := by rw [HQ2.out]; rfl
          rw [show [s].flatMap strC = strC s from by simp, e]
          exact hown7) (by rw [E0.out]; exact hl7) ⟨rfl, rfl, rfl⟩ (fun k hk hk2 => by
          have : k = 1 ∨ k = 2 := by omega
          rcases this with rfl | rfl <;> exact ⟨rfl, rfl⟩) HNB.out ⟨by
            show (x.nd.keys ++ [s]).length ≤ a + 1
            rw [List.length_append, List.length_singleton]; have := HN0.out; omega, by show x.nd.spots.length ≤ a + 1; have := HN1.out; omega, (HR4.out.few.2 me x HX.out).2.2⟩)
      have hbt8 : (w7.setCell ⟨gN, me * 7 + 2, none⟩ (.slice vA (k + 1) vc)).heap[w2.heap.size]? = some (.cells #[.int .i64 ((4 : Nat) : Int), .int .i64 (F : Nat), .int .i64 (E : Nat)] 72) := by
        rw [HR4.out.keptB HX.out (j := 0) (by omega) (by rw [E0.out]; exact hg7) hsz4 (HNE.out.1) (HNE.out.2 0 (by omega))]
        exact HBT.out
      clear hown7 hg7 hl7 c7 f7 z0' HC7
      obtain ⟨w8, hw8⟩ : ∃ w8, w8 = w7.setCell ⟨gN, me * 7 + 2, none⟩ (.slice vA (k + 1) vc) := ⟨_, rfl⟩
      obtain ⟨x8, hx8d⟩ : ∃ x8 : Nx, x8 = ⟨{ x.nd with keys := x.nd.keys ++ [s] }, upV x.v 0 (.slice vA (k + 1) vc)⟩ := ⟨_, rfl⟩
      obtain ⟨X8, hX8⟩ : ∃ X8, X8 = X.set me x8 := ⟨_, rfl⟩
      have HR8 := Lib.hid (show RP W w8 P (.slice A n c) (.slice (some ⟨g, 0, none⟩) N cL) en (a + 1) (.slice (some ⟨gN, 0, none⟩) X.length cX) 0 0 (labS lab (.slice vA (k + 1) vc) (.fld 0 me)) X8 by rw [hX8, hx8d, hw8]; exact HF.out)
      rw [← hw8] at hbt8 ⊢
      clear hw8 HF
      have hsz8 : w2.heap.size < w8.heap.size := lt_blk hbt8
      have hxs : X8[me]? = some x8 := by rw [hX8, List.getElem?_set, if_pos rfl, if_pos (by have := HXL.out; omega)]
      have hv8 : x8.v 1 = .slice A1 n1 c1 := by rw [hx8d]; exact E1.out
      have hs8 : x8.nd.spots = x.nd.spots := by rw [hx8d]
      obtain ⟨g', cc, e, hnb8, _, hgl8, _, _, hfree8, hcells8, hown8⟩ := HR8.out.node hxs
      injection e with e1 _ e3
      injection e1 with e1
      injection e1 with e1
      subst e1
      subst e3
      have hr1 := hown8 1 (by omega)
      rw [hv8] at hr1
      have y1 := hcells8 3 (.slice A1 n1 c1) (by rw [← hv8]; rfl)
      have y1a : ∀ o, (w8.alloc o).cell? ⟨gN, me * 7 + 3, none⟩ = some (.slice A1 n1 c1) := fun o => by rw [World.cell?_alloc_lt _ _ _ hgl8]; exact y1
      have q1 : w8.cell? ⟨w2.heap.size, 1, none⟩ = some (.int .i64 (F : Nat)) := by simp [World.cell?, hbt8]
      have q2 : w8.cell? ⟨w2.heap.size, 2, none⟩ = some (.int .i64 (E : Nat)) := by simp [World.cell?, hbt8]
      have q1a : ∀ o, (w8.alloc o).cell? ⟨w2.heap.size, 1, none⟩ = some (.int .i64 (F : Nat)) := fun o => by rw [World.cell?_alloc_lt _ _ _ hsz8]; exact q1
      have q2a : ∀ o, (w8.alloc o).cell? ⟨w2.heap.size, 2, none⟩ = some (.int .i64 (E : Nat)) := fun o => by rw [World.cell?_alloc_lt _ _ _ hsz8]; exact q2
      have HR1 := Lib.hid (show w8.ownsRow W.heap.size 42 2 (.slice A1 n1 c1) n1 (x.nd.spots.flatMap spC) by
        have h : w8.ownsRow W.heap.size (ety 1) (esz 1) (.slice A1 n1 c1) x8.nd.spots.length (x8.nd.spots.flatMap spC) := hr1
        rw [hs8, ← HN1.out] at h; exact h)
      have HV8 := Lib.hid hv8
      have HX8D := Lib.hid hx8d
      have HX8 := Lib.hid hX8
      have HXS := Lib.hid hxs
      have HC9 := Lib.hid (show ∀ w9 o, (w8.alloc o).grownBy w9 (Value.slice A1 n1 c1).ownBlock → w9.cell? ⟨gN, me * 7 + 3, none⟩ = some (.slice A1 n1 c1) ∧ w9.frozen? ⟨gN, me * 7 + 3, none⟩ = false from fun w9 o hg => by
        have e : w9.heap[gN]? = w8.heap[gN]? := HR8.out.kept HXS.out (j := 1) (by omega) HNB.out (by rw [HV8.out]; exact hg)
        exact ⟨(World.cell?_of_block (a := ⟨gN, me * 7 + 3, none⟩) e).trans y1, (World.frozen?_of_block (a := ⟨gN, me * 7 + 3, none⟩) e).trans (hfree8 _)⟩)
      have hbs8 : W.heap.size ≤ w8.heap.size := HR8.out.size
      clear hnb8 hfree8 hcells8 hown8 hr1 hx8d hv8 hs8 hX8 hxs hbt8
      go_region_law (refine step_own rfl (.tmp 80) (.tmp 86) 39 rfl W.heap.size 42 iS _ 2 16 Tryz.underlying39 hS hS0 hS1 hS2 zcS (by decide) _ n1 (x.nd.spots.flatMap spC) rfl (HR1.out.alloc _) ⟨w8.heap.size, 0, none⟩ 1 1 [.int .i64 (F : Nat), .int .i64 (E : Nat)] rfl rfl (Jk.cells_new _ _ rfl) (oneSpan _ _) (by unfold maxLen; omega) (by omega) (by simp; omega) ?_; intro v' w9 hown9 hg9 hl9; obtain ⟨c9, f9⟩ := HC9.out _ _ (by first | exact hg9 | exact gDrew hg9); obtain ⟨vB, vd, rfl, _⟩ := (Rr.of_own hown9).shape)
      all_goals
        have HR9 := Lib.hid (HR8.out.field (j := 1) (nd' := Nd.addKey s (F, E) x.nd) HXS.out (by omega) (by rw [HV8.out]; first | exact hg9 | exact gDrew hg9) (by
            show w9.ownsRow W.heap.size 42 2 _ (x.nd.spots ++ [(F, E)]).length ((x.nd.spots ++ [(F, E)]).flatMap spC)
            rw [List.length_append, List.flatMap_append, ← HN1.out]
            exact hown9) (by rw [HV8.out]; exact hl9) (by rw [HX8D.out]; exact ⟨rfl, rfl, rfl⟩) (fun k hk hk2 => by
            rw [HX8D.out]
            have : k = 0 ∨ k = 2 := by omega
            rcases this with rfl | rfl <;> exact ⟨rfl, rfl⟩) HNB.out ⟨by
              show (x.nd.keys ++ [s]).length ≤ a + 1
              rw [List.length_append, List.length_singleton]; have := HN0.out; omega, by
              show (x.nd.spots ++ [(F, E)]).length ≤ a + 1
              rw [List.length_append, List.length_singleton]; have := HN1.out; omega, (HR4.out.few.2 me x HX.out).2.2⟩)
        clear hown9 hg9 hl9 c9 f9
        have hR9 : RP W (w9.setCell ⟨gN, me * 7 + 3, none⟩ (.slice vB (n1 + 1) vd)) P (.slice A n c) (.slice (some ⟨g, 0, none⟩) N cL) en (a + 1) (.slice (some ⟨gN, 0, none⟩) X.length cX) 0 0 _ (X8.set me ⟨Nd.addKey s (F, E) x.nd, upV x8.v 1 (.slice vB (n1 + 1) vd)⟩) := HR9.out
        have hmap : (X8.set me ⟨Nd.addKey s (F, E) x.nd, upV x8.v 1 (.slice vB (n1 + 1) vd)⟩).map Nx.nd = (X.map Nx.nd).modify me (Nd.addKey s (F, E)) := by
          rw [HX8.out, List.set_set, map_set (f := Nd.addKey s (F, E)) HX.out]
        have HK := Lib.hid (take_any HH.out hR9 58)
        have HMP := Lib.hid hmap
        clear hR9 hmap HR9
        go_wp2_with fail
        refine HK.out.mono ?_
        rintro e w10 ht10
        unfold TakeP at ht10
        cases hd : S.drop (a + 1) with
        | nil =>
          rw [hd] at ht10
          obtain ⟨rfl, R10⟩ := ht10
          have HE := Lib.hid (show entry (envL l en) true x.nd.keys (S.drop a) = .bad en.1 en.2 by rw [HD.out, hd]; exact ent_nil rfl HRQ.out HNOT.out)
          go_wp2_with fail
          go_ret
          unfold EntP
          rw [HE.out]
          exact ⟨rfl, _, _, _, R10⟩
        | cons u r2 =>
          rw [hd] at ht10
          simp only at ht10
          have hent : entry (envL l en) true x.nd.keys (S.drop a) = if mkB l u 58 = true then .ok (s, (F, E)) r2 else .bad 3 u.2.1 := by rw [HD.out, hd]; exact ent_mk rfl HRQ.out HNOT.out
          by_cases hm : mkB l u 58 = true
          · rw [if_pos hm] at ht10 hent
            obtain ⟨rfl, R10⟩ := ht10
            have HE := Lib.hid hent
            have HTOP := Lib.hid (show a + 1 + 1 ≤ S.length by have := congrArg List.length hd; rw [List.length_drop, List.length_cons] at this; omega)
            have hdd : S.drop (a + 1 + 1) = r2 := by rw [show a + 1 + 1 = (a + 1) + 1 from rfl, ← List.drop_drop, hd]; rfl
            clear hent hm
            go_wp2_with fail
            go_ret
            unfold EntP
            rw [HE.out]
            exact ⟨rfl, _, _, _, R10, hdd, HMP.out, by omega, HTOP.out⟩
          · rw [if_neg hm] at ht10 hent
            obtain ⟨rfl, R10⟩ := ht10
            have HE := Lib.hid hent
            clear hent hm
            go_wp2_with fail
            go_ret
            unfold EntP
            rw [HE.out]
            exact ⟨rfl, _, _, _, R10⟩
end
end R9
end Jt
end Go.Proofs.YtdclhepjoifpiaaGreatDoor
