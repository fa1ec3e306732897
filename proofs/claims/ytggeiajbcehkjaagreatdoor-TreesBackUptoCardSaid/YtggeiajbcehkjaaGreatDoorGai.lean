/- What landed: key. -/
import Derived.Test.YtggeiajbcehkjaaGreatDoorGag
import Derived.Deep.RegionWith
namespace Go.Proofs.YtggeiajbcehkjaaGreatDoor
open Go.RowKit
namespace Jt
section
variable {w : World} {P : Nat} {bv sv nv : Value} {lab : Nat → Own} {op : Nat → Prop} {mb : Nat → Nat} {ks : Nat → List Bs} {X : List Nx}
theorem strLaw : Maps.Keyed Tryz.prog 9 := Maps.string_keyed Tryz.underlying9
theorem zeroUnit (w : World) : (zeroValue 74).run Tryz.prog w = .ok (.agg #[]) w := by kernel_rfl
/-- A node's row has one more: what holds then. -/
theorem fld_done {w5 : World} {wd a g j : Nat} {sk : List (Nat × Bool)} {x : Nx} {o : Obj} {v' : Value} {nd' : Nd} (h : PM w P bv wd sk lab op mb ks sv nv X) (hx : X[a]? = some x) (hj : j < 3) (hg : (w.alloc o).grownBy w5 (x.v j).ownBlock)
    (ho : w5.ownsRow (P + 1) (ety j) (esz j) v' (ecn nd' j) (ecs nd' j)) (hl : v'.ownBlock = (x.v j).ownBlock ∨ v'.ownBlock = some (w.alloc o).heap.size) (hkd : nd'.kind = x.nd.kind ∧ nd'.text = x.nd.text ∧ nd'.span = x.nd.span)
    (hoth : ∀ k, k < 3 → k ≠ j → ecn nd' k = ecn x.nd k ∧ ecs nd' k = ecs x.nd k) (hnb : nv.ownBlock = some g) :
    PM (w5.setCell ⟨g, a * 7 + (2 + j), none⟩ v') P bv wd sk (labS lab v' (.fld j a)) op mb ks sv nv (X.set a ⟨nd', upV x.v j v'⟩) ∧ Below P w (w5.setCell ⟨g, a * 7 + (2 + j), none⟩ v') ∧
      ∀ b, b < w.heap.size → b ≠ g → (x.v j).ownBlock ≠ some b → (w5.setCell ⟨g, a * 7 + (2 + j), none⟩ v').heap[b]? = w.heap[b]? := by
  have h1 := h.below ((Below.refl _ _).alloc (Nat.le_refl _) o)
  have hE := h1.nt.e a x hx j hj
  have hlt := h1.lt
  refine ⟨h1.field hx hj hg ho hl hkd hoth hnb, ?_, fun b hb hbg hbx => ?_⟩
  · have b1 : Below P w (w.alloc o) := (Below.refl _ _).alloc (Nat.le_of_lt h.lt) o
    have hgl := (h.nt.lt g hnb).1
    exact (b1.grown hg (Nat.le_of_lt hlt) fun k e => by have := (hE.r.lt k e).1; omega).setCell (by show P ≤ g; omega) _
  · rw [heap_setCell_other _ _ _ _ hbg, hg.block b (by simp; omega) fun e => hbx e.symm]
    exact (World.grownBy_alloc w o none).block b hb (by simp)
theorem zcS : (Value.agg #[.int .i64 0, .int .i64 0]).cells.size = 2 := by simp [Value.cells]
theorem oneSpan (p q : Int) : ∀ u ∈ [Value.int .i64 p, .int .i64 q], u.oneCell' = true := by
  intro u hu
  simp at hu
  rcases hu with rfl | rfl <;> rfl
set_option maxRecDepth 100000 in
set_option maxHeartbeats 4000000 in
theorem key_any {s : St} {k f t nn : Nat} {q : Bs} {a : Nat} {S0 : List (Nat × Bool)} (h : PM w P bv s.wd s.sk lab op mb ks sv nv X) (hX : X.map Nx.nd = s.nd) (hK : ∀ a, (a, true) ∈ s.sk → ks a = keysAt s.nd a) (hw : Wf nn s) (hnn : nn ≤ 1000000) (hsk : s.sk = (a, true) :: S0)
    {Q : ByteArray} (hQ : Q = txt q) (hq : q.length ≤ 4000000) :
    Calls Tryz.prog 146 #[.pointer (some ⟨P, 0, none⟩), .agg #[.int .u8 (k : Nat), .int .i64 (f : Nat), .int .i64 (t : Nat)], .string Q] w (Step w P bv lab (s.key (k, f, t) q)) := by
  obtain ⟨i9, h9, h90, h91, h92⟩ := info_parts (show (Tryz.prog.info? 9).map (fun i => (i.zero, i.size, i.bytes)) = some (some (.string ⟨#[]⟩), 1, 16) by kernel_rfl)
  obtain ⟨iS, hS, hS0, hS1, hS2⟩ := info_parts (show (Tryz.prog.info? 43).map (fun i => (i.zero, i.size, i.bytes)) = some (some (.agg #[.int .i64 0, .int .i64 0]), 2, 16) by kernel_rfl)
  obtain ⟨w1, hw1⟩ : ∃ w1, w1 = w.alloc (.cells #[.int .u8 (k : Nat), .int .i64 (f : Nat), .int .i64 (t : Nat)] 145) := ⟨_, rfl⟩
  have hb1 : Below w.heap.size w w1 := by rw [hw1]; exact (Below.refl _ _).alloc (Nat.le_refl _) _
  have hl1 : w.heap.size < w1.heap.size := by rw [hw1]; simp
  have HB1 := Lib.hid hb1
  have hP := h.lt
  have HP := Lib.hid hP
  rw [hsk] at h
  have hdS : S0.length ≤ 256 := by have := hw.deep; rw [hsk, List.length_cons] at this; omega
  have hn0 : ∀ m', (a, m') ∉ S0 := fun m' hm => by
    have := hw.once
    rw [hsk] at this
    exact (List.nodup_cons.1 this).1 (List.mem_map.2 ⟨_, hm, rfl⟩)
  have hka : ks a = keysAt s.nd a := hK a (by rw [hsk]; exact List.mem_cons_self ..)
  have haX : a < X.length := by
    have := hw.at_ (a, true) (by rw [hsk]; exact List.mem_cons_self ..)
    rw [← hX, List.length_map] at this; exact this
  obtain ⟨x, hx⟩ : ∃ x, X[a]? = some x := ⟨_, List.getElem?_eq_getElem haX⟩
  have hkx : keysAt s.nd a = x.nd.keys := by unfold keysAt; rw [← hX, List.getElem?_map, hx]; rfl
  have hfew := hw.few.2 x.nd (by rw [← hX]; exact List.mem_map_of_mem (List.mem_of_getElem? hx))
  have HM1 := Lib.hid (h.below hb1)
  have t0 : ∀ wx, Below w1.heap.size w1 wx → wx.cell? ⟨w.heap.size, 0, none⟩ = some (.int .u8 (k : Nat)) ∧ wx.cell? ⟨w.heap.size, 1, none⟩ = some (.int .i64 (f : Nat)) ∧ wx.cell? ⟨w.heap.size, 2, none⟩ = some (.int .i64 (t : Nat)) := fun wx hb => by
    refine ⟨(hb.cell (by exact hl1)).trans ?_, (hb.cell (by exact hl1)).trans ?_, (hb.cell (by exact hl1)).trans ?_⟩ <;> (rw [hw1]; simp [go_sem])
  have HT0 := Lib.hid t0
  obtain ⟨r, hr⟩ : ∃ r, r = s.key (k, f, t) q := ⟨_, rfl⟩
  rw [← hr]
  have HR := Lib.hid (hr.trans (show s.key (k, f, t) q = if q ∈ ks a then .bad 5 f else .ok { s with wd := 4, nd := s.nd.modify a (Nd.addKey q (f, t)) } by
    unfold St.key; rw [hsk]; show (if q ∈ keysAt s.nd a then _ else _) = _; rw [hka]))
  have CT := Lib.hid (top_any HM1.out hdS)
  have HGW := Lib.hid (show (∀ g, nv.ownBlock = some g → g < w.heap.size) ∧ ∀ b, (x.v 0).ownBlock = some b → b < w.heap.size from ⟨fun g hg => (h.nt.lt g hg).2, fun b hb => ((h.nt.e a x hx 0 (by omega)).r.lt b hb).2⟩)
  have hmb := (h.maps a (List.mem_cons_self ..))
  have HMB := Lib.hid (And.intro hmb.2.1 hmb.2.2.lt)
  have HX := Lib.hid hX
  have HK := Lib.hid hK
  have HWF := Lib.hid hw
  have HSK := Lib.hid hsk
  have HN0 := Lib.hid hn0
  have HXA := Lib.hid hx
  have HKX := Lib.hid (hka.trans hkx)
  have hkey : keyOf Tryz.prog 9 (.string Q) = some (.string q) := by
    have := WideMaps.keyOf_string_mk (P := Tryz.prog) (k := 9) Tryz.underlying9 (s := Q) (by rw [hQ, txt_size]; unfold maxLen; omega)
    rw [this, hQ]; rfl
  have HQ := Lib.hid hQ
  obtain ⟨kn, hkn⟩ : ∃ kn, kn = (ks a).length := ⟨_, rfl⟩
  have HKN := Lib.hid hkn
  have hkn2 : kn ≤ 1000000 := by rw [hkn, hka, hkx]; omega
  have hsn2 : x.nd.spots.length ≤ 1000000 := by omega
  have td := ta_d
  clear hmb h hX hK hw hb1 t0 hr hP hsk hn0 hka hx hkx hfew hQ hkn
  go_enter Tryz.func146, Tryz.ntmps146
  go_wp2_with fail
  rw [← hw1]
  refine CT.out.mono ?_
  rintro e w2 ⟨rfl, hb2⟩
  have HM2 := Lib.hid (HM1.out.below hb2)
  have HW2 := Lib.hid hb2
  have HB2 := Lib.hid (Jk.below_tr HB1.out hb2)
  clear hb2 CT hw1
  rw [show skC mb (a, true) = .iface 185 (.agg #[.int .i64 (a : Nat), .map (some (mb a))]) from rfl]
  obtain ⟨w3, hw3⟩ : ∃ w3, w3 = w2.alloc (.cells #[.int .i64 (a : Nat), .map (some (mb a))] 185) := ⟨_, rfl⟩
  have hb3 : Below w2.heap.size w2 w3 := by rw [hw3]; exact (Below.refl _ _).alloc (Nat.le_refl _) _
  have HM3 := Lib.hid (HM2.out.below hb3)
  have HW3 := Lib.hid (HW2.out.trans (hb3.mono HW2.out.size))
  have HB3 := Lib.hid (Jk.below_tr HB2.out hb3)
  have d0 : w3.cell? ⟨w2.heap.size, 0, none⟩ = some (.int .i64 (a : Nat)) := by rw [hw3]; simp [go_sem]
  have d1 : w3.cell? ⟨w2.heap.size, 1, none⟩ = some (.map (some (mb a))) := by rw [hw3]; simp [go_sem]
  have hsz3 : w2.heap.size < w3.heap.size := by rw [hw3]; simp
  have hown3 := Lib.hid (HM3.out.maps a (List.mem_cons_self ..)).2.2
  rw [← HKN.out] at hown3
  go_upto_region 2 with fail
  rw [← hw3]
  clear hb3 hw3
  by_cases hin : q ∈ ks a
  · have R := Lib.hid (HR.out.trans (if_pos hin))
    have hh : Maps.has (setK (ks a)) (.string q) = true := by rw [setK_has]; exact decide_eq_true hin
    clear hin
    have q1 : ∀ o, (w3.alloc o).cell? ⟨w.heap.size, 1, none⟩ = some (.int .i64 (f : Nat)) := fun o => by rw [World.cell?_alloc_lt _ _ _ (by have := HW3.out.size; show w.heap.size < _; omega)]; exact (HT0.out w3 HW3.out).2.1
    go_wp2_with (at_lookup; refine wpList_lookup_own_unit _ rfl _ _ 183 rfl 9 74 strLaw Tryz.underlying183 (zeroUnit _) (mb a) kn (setK (ks a)) rfl hown3.out _ _ rfl hkey ?_)
    refine (fail_any _ _ _).mono ?_
    rintro e w3 ⟨rfl, rfl⟩
    exact ⟨rfl, Step.bad ((HB3.out.mono (Nat.le_of_lt HP.out)).alloc (by have := HM3.out.lt; omega) _) R.out rfl⟩
  · have R := Lib.hid (HR.out.trans (if_neg hin))
    have hh : Maps.has (setK (ks a)) (.string q) = false := by rw [setK_has]; exact decide_eq_false hin
    clear hin
    have d0a : ∀ o, (w3.alloc o).cell? ⟨w2.heap.size, 0, none⟩ = some (.int .i64 (a : Nat)) := fun o => by rw [World.cell?_alloc_lt _ _ _ hsz3]; exact d0
    have d1a : ∀ o, (w3.alloc o).cell? ⟨w2.heap.size, 1, none⟩ = some (.map (some (mb a))) := fun o => by rw [World.cell?_alloc_lt _ _ _ hsz3]; exact d1
    go_wp2_with (first
      | (at_lookup; refine wpList_lookup_own_unit _ rfl _ _ 183 rfl 9 74 strLaw Tryz.underlying183 (zeroUnit _) (mb a) kn (setK (ks a)) rfl hown3.out _ _ rfl hkey ?_)
      | (at_mapUpdate; refine wpList_mapUpdate_in _ rfl _ _ _ 183 rfl 9 74 strLaw Tryz.underlying183 unitElem (mb a) kn (setK (ks a)) rfl (hown3.out.alloc _) (by unfold maxLen; omega) _ _ _ rfl rfl hkey _ [] unitElem_mk ?_; intro w5 hown5 hturn5))
    have hbel4 : Below w3.heap.size w3 (w3.alloc (.cells #[] 74)) := (Below.refl _ _).alloc (Nat.le_refl _) _
    have hg5 := hturn5.grown
    have HM5 := Lib.hid ((HM3.out.below hbel4).mapPut HN0.out hg5 (by rw [← HKN.out]; exact hown5))
    have HB5 := Lib.hid (((HB3.out.mono (Nat.le_of_lt HP.out)).trans (hbel4.mono (by have := HM3.out.lt; omega))).grown hg5 (by have := HM3.out.lt; simp; omega) (fun k e => by injection e with e; have := HMB.out.1; omega))
    have e0 := hg5.cell (d0a (.cells #[] 74)) (fun e => by injection e with e; have := HMB.out.2; have := HB2.out.size; have e' : w2.heap.size = mb a := e; omega)
    have e1 := hg5.cell (d1a (.cells #[] 74)) (fun e => by injection e with e; have := HMB.out.2; have := HB2.out.size; have e' : w2.heap.size = mb a := e; omega)
    have HT5 := Lib.hid (show ∀ wx, Below w5.heap.size w5 wx → wx.cell? ⟨w.heap.size, 1, none⟩ = some (.int .i64 (f : Nat)) ∧ wx.cell? ⟨w.heap.size, 2, none⟩ = some (.int .i64 (t : Nat)) from fun wx hb => by
      obtain ⟨_, q1, q2⟩ := HT0.out w3 HW3.out
      have hs : w.heap.size < w3.heap.size := by have := HW3.out.size; omega
      have k1 := hg5.cell ((hbel4.cell (p := ⟨w.heap.size, 1, none⟩) hs).trans q1) (fun e => by injection e with e; have := HMB.out.2; have e' : w.heap.size = mb a := e; omega)
      have k2 := hg5.cell ((hbel4.cell (p := ⟨w.heap.size, 2, none⟩) hs).trans q2) (fun e => by injection e with e; have := HMB.out.2; have e' : w.heap.size = mb a := e; omega)
      exact ⟨(hb.cell (World.block_lt_of_cell? _ _ k1)).trans k1, (hb.cell (World.block_lt_of_cell? _ _ k2)).trans k2⟩)
    obtain ⟨g, c, hnv, hnb⟩ := HM5.out.nt.blk (by omega)
    subst hnv
    have HNBK := Lib.hid hnb
    obtain ⟨xl, hxl⟩ : ∃ xl, xl = X.length := ⟨_, rfl⟩
    have HXL := Lib.hid hxl
    have K3 := fun s : Kept w5 => s.cell HM5.out.po.cells.2.2.2
    have KD0 := fun s : Kept w5 => s.cell e0
    have KD1 := fun s : Kept w5 => s.cell e1
    rw [← hxl] at haX K3
    have HF5 := Lib.hid (show Fr lab P w w5 from fun b hb hbP hbl => by
      have h3 : b < w3.heap.size := Nat.lt_of_lt_of_le hb HB3.out.size
      rw [hg5.block b (by simp; omega) (fun e => by
          injection e with e
          have := (HM3.out.maps a (List.mem_cons_self ..)).1
          rw [← e, hbl] at this; cases this), (World.grownBy_alloc w3 _ none).block b h3 (by simp)]
      exact HB3.out.block b hb)
    have HZ5 := Lib.hid (Nat.le_trans HB3.out.size (Nat.le_trans hbel4.size hg5.size))
    clear hxl hnb hg5 hturn5 hown5 d0a d1a d0 d1 e0 e1 hbel4
    simp only [Act.put]
    refine reg_lit (C := fun wx => ∃ s : Kept w5, wx = s.wx) (by kernel_rfl) (by kernel_rfl) ⟨⟨_, (Below.refl _ _).drew⟩, rfl⟩ ?_
    iterate 5 (go_big_quiet_step (fail))
    go_big_quiet_want
    go_big_quiet_op
    refine ⟨.int .i64 (a : Nat), fun s => (node_dict (a : Nat) (.map (some (mb a))) s.wx).mono ?_, ?_⟩
    · rintro e w3 ⟨rfl, hb⟩; exact Kept.out hb
    go_big_quiet_on
    iterate 2 (go_big_quiet_step (fail))
    refine wpQuiet_nil ?_
    rintro w6 ⟨⟨wx, ox0⟩, e⟩
    have ox : Below w5.heap.size w5 w6 := by rw [e]; exact ox0
    clear e ox0 K3 KD0 KD1
    have HM6 := Lib.hid (HM5.out.below ox)
    have HB6 := Lib.hid (HB5.out.trans (ox.mono (by have := HM5.out.lt; omega)))
    obtain ⟨q1, q2⟩ := HT5.out w6 ox
    have hsz6 : w.heap.size < w6.heap.size := World.block_lt_of_cell? _ _ q1
    have HF6 := Lib.hid (show Fr lab P w w6 from HF5.out.on HZ5.out (fun _ _ => rfl) (Fr.of (lab := lab) ox))
    have HZ6 := Lib.hid (Nat.le_trans HZ5.out ox.size)
    clear ox
    obtain ⟨g', cc, e, _, _, _, _, hfree, hcells⟩ := HM6.out.nt.shape (by have := HXL.out; omega)
    injection e with e1 _ e3
    subst e3
    injection e1 with e1
    injection e1 with e1
    subst e1
    have hr0 := (HM6.out.nt.e a x HXA.out 0 (by omega)).o (HM6.out.op (a, true) (List.mem_cons_self ..))
    have hr1 := (HM6.out.nt.e a x HXA.out 1 (by omega)).o (HM6.out.op (a, true) (List.mem_cons_self ..))
    obtain ⟨A0, c0, e0, _⟩ := (Rr.of_own hr0).shape
    obtain ⟨A1, c1, e1, _⟩ := (Rr.of_own hr1).shape
    obtain ⟨n0, hn0⟩ : ∃ n, n = x.nd.keys.length := ⟨_, rfl⟩
    obtain ⟨n1, hn1⟩ : ∃ n, n = x.nd.spots.length := ⟨_, rfl⟩
    replace e0 : x.v 0 = .slice A0 n0 c0 := by rw [hn0]; exact e0
    replace e1 : x.v 1 = .slice A1 n1 c1 := by rw [hn1]; exact e1
    have z0 := hcells a x HXA.out 2 (.slice A0 n0 c0) (by rw [← e0]; rfl)
    have f0 := hfree (a * 7 + 2)
    have HR0 := Lib.hid (show w6.ownsRow (P + 1) 9 1 (.slice A0 n0 c0) n0 (x.nd.keys.flatMap strC) by rw [← e0, hn0]; exact hr0)
    have hn02 : n0 ≤ 1000000 := by rw [hn0, ← HKX.out, ← HKN.out]; exact hkn2
    have hn12 : n1 ≤ 1000000 := by rw [hn1]; exact hsn2
    have HN0' := Lib.hid hn0
    have HN1 := Lib.hid hn1
    have E0 := Lib.hid e0
    have E1 := Lib.hid e1
    have hgl := HM6.out.nt.lt g HNBK.out
    have HC7 := Lib.hid (show ∀ w7 o, (w6.alloc o).grownBy w7 (Value.slice A0 n0 c0).ownBlock → w7.cell? ⟨g, a * 7 + 2, none⟩ = some (.slice A0 n0 c0) ∧ w7.frozen? ⟨g, a * 7 + 2, none⟩ = false from fun w7 o hg => by
      have e : w7.heap[g]? = w6.heap[g]? := by
        rw [hg.block g (by simp; omega) (fun e => by
          have l1 := (HM6.out.nt.e a x HXA.out 0 (by omega)).l g (by rw [E0.out]; exact e.symm)
          rw [HM6.out.nt.l g HNBK.out] at l1; cases l1)]
        exact (World.grownBy_alloc w6 o none).block g hgl.2 (by simp)
      exact ⟨(World.cell?_of_block (a := ⟨g, a * 7 + 2, none⟩) e).trans z0, (World.frozen?_of_block (a := ⟨g, a * 7 + 2, none⟩) e).trans f0⟩)
    have hbs : P + 1 ≤ w6.heap.size := HM6.out.lt
    have HQ1 := Lib.hid q1
    have HQ2 := Lib.hid q2
    clear hfree hcells hr0 hr1 e0 e1 hn0 hn1 hgl q1 q2
    go_wp2_with (at_builtin; refine wpList_append_own_at _ rfl (.tmp 39) (.tmp 41) 31 rfl (P + 1) 9 i9 (.string ⟨#[]⟩) 1 16 Tryz.underlying31 h9 h90 h91 h92 rfl (by decide) _ n0 (x.nd.keys.flatMap strC) rfl (HR0.out.alloc _) ⟨w6.heap.size, 0, none⟩ 1 1 [.string Q] rfl rfl (cell_one_new _ _ _) (by intro u hu; simp at hu; subst hu; rfl) (by unfold maxLen; omega) (by omega) (by simp; omega) ?_; intro v' w7 hown7 hg7 hnil7 hl7; obtain ⟨c7, f7⟩ := HC7.out _ _ hg7; obtain ⟨vA, vc, rfl, _⟩ := (Rr.of_own hown7).shape; clear hnil7)
    have HF := Lib.hid (fld_done (j := 0) (nd' := { x.nd with keys := x.nd.keys ++ [q] }) HM6.out HXA.out (by omega) (by rw [E0.out]; exact hg7) (by
        show w7.ownsRow (P + 1) 9 1 _ (x.nd.keys ++ [q]).length ((x.nd.keys ++ [q]).flatMap strC)
        rw [List.length_append, List.flatMap_append, ← HN0'.out]
        have e : strC q = [.string Q] := by rw [HQ.out]; rfl
        rw [show [q].flatMap strC = strC q from by simp, e]
        exact hown7) (by rw [E0.out]; exact hl7) ⟨rfl, rfl, rfl⟩ (fun k hk hk2 => by
        have : k = 1 ∨ k = 2 := by omega
        rcases this with rfl | rfl <;> exact ⟨rfl, rfl⟩) HNBK.out)
    have HLAB := Lib.hid (show ∀ b, b < w6.heap.size → labS lab (.slice vA (n0 + 1) vc) (.fld 0 a) b = lab b from fun b hb => labS_old (v := x.v 0) (s := (w6.alloc (.cells #[.string Q] 9)).heap.size) (by rw [E0.out]; exact hl7) (HM6.out.nt.e a x HXA.out 0 (by omega)).l b (by simp; omega))
    clear hown7 hg7 hl7 c7 f7 z0 f0 HC7
    obtain ⟨w8, hw8⟩ : ∃ w8, w8 = w7.setCell ⟨g, a * 7 + 2, none⟩ (.slice vA (n0 + 1) vc) := ⟨_, rfl⟩
    replace HF : Hid (PM w8 P bv s.wd ((a, true) :: S0) (labS lab (.slice vA (n0 + 1) vc) (.fld 0 a)) op mb (fun i => if i = a then ks a ++ [q] else ks i) sv (.slice (some ⟨g, 0, none⟩) X.length c) (X.set a ⟨{ x.nd with keys := x.nd.keys ++ [q] }, upV x.v 0 (.slice vA (n0 + 1) vc)⟩) ∧ Below P w6 w8 ∧
        ∀ b, b < w6.heap.size → b ≠ g → (x.v 0).ownBlock ≠ some b → w8.heap[b]? = w6.heap[b]?) := by rw [hw8]; exact HF
    rw [← hw8]
    clear hw8
    have HM8 := Lib.hid HF.out.1
    have HB8 := Lib.hid (HB6.out.trans HF.out.2.1)
    have hbx : w8.heap[w.heap.size]? = w6.heap[w.heap.size]? := HF.out.2.2 w.heap.size hsz6 (fun e => by have := HGW.out.1 g HNBK.out; omega) (fun e => by have := HGW.out.2 _ e; omega)
    have q1 := (World.cell?_of_block (a := ⟨w.heap.size, 1, none⟩) hbx).trans HQ1.out
    have q2 := (World.cell?_of_block (a := ⟨w.heap.size, 2, none⟩) hbx).trans HQ2.out
    obtain ⟨x8, hx8d⟩ : ∃ x8 : Nx, x8 = ⟨{ x.nd with keys := x.nd.keys ++ [q] }, upV x.v 0 (.slice vA (n0 + 1) vc)⟩ := ⟨_, rfl⟩
    have hv8 : x8.v 1 = .slice A1 n1 c1 := by rw [hx8d]; exact E1.out
    have hs8 : x8.nd.spots = x.nd.spots := by rw [hx8d]
    have HX8D := Lib.hid hx8d
    rw [← hx8d] at HM8
    obtain ⟨X8, hX8⟩ : ∃ X8, X8 = X.set a x8 := ⟨_, rfl⟩
    rw [← hX8] at HM8
    have hxs : X8[a]? = some x8 := by rw [hX8, List.getElem?_set, if_pos rfl, if_pos (by have := HXL.out; omega)]
    have HL8 := Lib.hid (show X8.length = X.length by rw [hX8, List.length_set])
    have HX8 := Lib.hid hX8
    have HXS := Lib.hid hxs
    have hnt := HM8.out.nt
    obtain ⟨g', cc, e, _, _, _, _, hfree, hcells⟩ := hnt.shape (by rw [HL8.out]; have := HXL.out; omega)
    injection e with e1 _ e3
    injection e1 with e1
    injection e1 with e1
    subst e1
    have hr1 := (hnt.e a x8 hxs 1 (by omega)).o (HM8.out.op (a, true) (List.mem_cons_self ..))
    rw [hv8] at hr1
    have z1 := hcells a x8 hxs 3 (.slice A1 n1 c1) (by rw [← hv8]; rfl)
    have z1a : ∀ o, (w8.alloc o).cell? ⟨g, a * 7 + 3, none⟩ = some (.slice A1 n1 c1) := fun o => by rw [World.cell?_alloc_lt _ _ _ (World.block_lt_of_cell? _ _ z1)]; exact z1
    have q1a : ∀ o, (w8.alloc o).cell? ⟨w.heap.size, 1, none⟩ = some (.int .i64 (f : Nat)) := fun o => by rw [World.cell?_alloc_lt _ _ _ (World.block_lt_of_cell? _ _ q1)]; exact q1
    have q2a : ∀ o, (w8.alloc o).cell? ⟨w.heap.size, 2, none⟩ = some (.int .i64 (t : Nat)) := fun o => by rw [World.cell?_alloc_lt _ _ _ (World.block_lt_of_cell? _ _ q2)]; exact q2
    have HR1 := Lib.hid (show w8.ownsRow (P + 1) 43 2 (.slice A1 n1 c1) n1 (x.nd.spots.flatMap spC) by
      have h : w8.ownsRow (P + 1) (ety 1) (esz 1) (.slice A1 n1 c1) (ecn x8.nd 1) (ecs x8.nd 1) := hr1
      rw [HN1.out]
      show w8.ownsRow (P + 1) (ety 1) (esz 1) _ (ecn x.nd 1) (ecs x.nd 1)
      rw [show ecn x.nd 1 = ecn x8.nd 1 by show x.nd.spots.length = x8.nd.spots.length; rw [hs8], show ecs x.nd 1 = ecs x8.nd 1 by show x.nd.spots.flatMap spC = x8.nd.spots.flatMap spC; rw [hs8]]
      rw [HN1.out] at h
      exact h)
    have f1 := hfree (a * 7 + 3)
    have hgl := hnt.lt g HNBK.out
    have HV8 := Lib.hid hv8
    have HC9 := Lib.hid (show ∀ w9 o, (w8.alloc o).grownBy w9 (Value.slice A1 n1 c1).ownBlock → w9.cell? ⟨g, a * 7 + 3, none⟩ = some (.slice A1 n1 c1) ∧ w9.frozen? ⟨g, a * 7 + 3, none⟩ = false from fun w9 o hg => by
      have e : w9.heap[g]? = w8.heap[g]? := by
        rw [hg.block g (by simp; omega) (fun e => by
          have l1 := (hnt.e a x8 hxs 1 (by omega)).l g (by rw [HV8.out]; exact e.symm)
          rw [hnt.l g HNBK.out] at l1; cases l1)]
        exact (World.grownBy_alloc w8 o none).block g hgl.2 (by simp)
      exact ⟨(World.cell?_of_block (a := ⟨g, a * 7 + 3, none⟩) e).trans z1, (World.frozen?_of_block (a := ⟨g, a * 7 + 3, none⟩) e).trans f1⟩)
    have hbs8 : P + 1 ≤ w8.heap.size := HM8.out.lt
    have HF8 := Lib.hid (show Fr lab P w w8 from fun b hb hbP hbl => by
      refine (HF.out.2.2 b (Nat.lt_of_lt_of_le hb HZ6.out) (fun e => ?_) (fun e => ?_)).trans (HF6.out b hb hbP hbl)
      · rw [e, HM6.out.nt.l g HNBK.out] at hbl; cases hbl
      · rw [(HM6.out.nt.e a x HXA.out 0 (by omega)).l b e] at hbl; cases hbl)
    have HZ8 := Lib.hid (Nat.le_trans HZ6.out HF.out.2.1.size)
    have HL8' := Lib.hid (show ∀ b, b < w.heap.size → labS lab (.slice vA (n0 + 1) vc) (.fld 0 a) b = lab b from fun b hb => HLAB.out b (Nat.lt_of_lt_of_le hb HZ6.out))
    clear hfree hcells hr1 hgl hx8d hv8 hs8 hX8 hxs hnt f1 hbx HF
    go_region_law (refine step_own rfl (.tmp 49) (.tmp 55) 56 rfl (P + 1) 43 iS _ 2 16 Tryz.underlying56 hS hS0 hS1 hS2 zcS (by decide) _ n1 (x.nd.spots.flatMap spC) rfl (HR1.out.alloc _) ⟨w8.heap.size, 0, none⟩ 1 1 [.int .i64 (f : Nat), .int .i64 (t : Nat)] rfl rfl (Jk.cells_new _ _ rfl) (oneSpan _ _) (by unfold maxLen; omega) (by omega) (by simp; omega) ?_; intro v' w9 hown9 hg9 hl9; obtain ⟨c9, f9⟩ := HC9.out _ _ (by first | exact hg9 | exact jgDrew hg9); obtain ⟨vB, vd, rfl, _⟩ := (Rr.of_own hown9).shape)
    all_goals
      have HF := Lib.hid (fld_done (j := 1) (nd' := Nd.addKey q (f, t) x.nd) HM8.out HXS.out (by omega) (by rw [HV8.out]; first | exact hg9 | exact jgDrew hg9) (by
          show w9.ownsRow (P + 1) 43 2 _ (x.nd.spots ++ [(f, t)]).length ((x.nd.spots ++ [(f, t)]).flatMap spC)
          rw [List.length_append, List.flatMap_append, ← HN1.out]
          exact hown9) (by rw [HV8.out]; exact hl9) (by rw [HX8D.out]; exact ⟨rfl, rfl, rfl⟩) (fun k hk hk2 => by
          rw [HX8D.out]
          have : k = 0 ∨ k = 2 := by omega
          rcases this with rfl | rfl <;> exact ⟨rfl, rfl⟩) HNBK.out)
      clear hown9 hg9 hl9 c9 f9
      obtain ⟨wA, hwA⟩ : ∃ wA, wA = w9.setCell ⟨g, a * 7 + (2 + 1), none⟩ (.slice vB (n1 + 1) vd) := ⟨_, rfl⟩
      rw [← hwA] at HF
      have c1 := HF.out.1.po.cells.2.1
      have f1 := HF.out.1.po.free 1
      have HWA := Lib.hid hwA
      rw [hwA] at c1 f1
      clear hwA
      go_wp2_with fail
      refine bodyPost_end (results_none rfl _ _ _) rfl ?_
      have hM := HF.out.1.want 4
      have hb := bset (HB8.out.trans HF.out.2.1) 1 (.int .u8 ((4 : Nat) : Int))
      rw [HWA.out] at hM hb
      rw [← HSK.out] at hM
      have hfr : Fr lab P w ((w9.setCell ⟨g, a * 7 + (2 + 1), none⟩ (.slice vB (n1 + 1) vd)).setCell ⟨P, 1, none⟩ (.int .u8 ((4 : Nat) : Int))) := by
        rw [← HWA.out]
        refine Fr.set (fun b hb hbP hbl => ?_) 1 _
        have hl8 := HL8'.out b hb
        refine (HF.out.2.2 b (Nat.lt_of_lt_of_le hb HZ8.out) (fun e => ?_) (fun e => ?_)).trans (HF8.out b hb hbP hbl)
        · rw [e, HM6.out.nt.l g HNBK.out] at hbl; cases hbl
        · rw [← hl8, (HM8.out.nt.e a x8 HXS.out 1 (by omega)).l b e] at hbl; cases hbl
      refine Step.ok hb R.out rfl hM ?_ ?_ hfr
      · show (X8.set a _).map Nx.nd = s.nd.modify a (Nd.addKey q (f, t))
        rw [HX8.out, List.set_set, map_set (f := Nd.addKey q (f, t)) HXA.out, HX.out]
      · intro b hb
        show (if b = a then ks a ++ [q] else ks b) = keysAt (s.nd.modify a (Nd.addKey q (f, t))) b
        have hkb := HK.out b hb
        have hka := HK.out a (by rw [HSK.out]; exact List.mem_cons_self ..)
        have hlt := HWF.out.at_ _ hb
        unfold keysAt at hkb hka ⊢
        rw [List.getElem?_modify]
        by_cases e : b = a
        · rw [if_pos e, hka, e]
          have := List.getElem?_eq_getElem (show a < s.nd.length by rw [← e]; exact hlt)
          rw [this]
          show _ = Nd.keys (if a = a then _ else _)
          rw [if_pos rfl]; rfl
        · rw [if_neg e, hkb]
          cases s.nd[b]? with
          | none => rfl
          | some y => show y.keys = Nd.keys (if a = b then _ else y); rw [if_neg (fun e2 => e e2.symm)]
end
end Jt
end Go.Proofs.YtggeiajbcehkjaaGreatDoor
