/- The document's parser: inside of a list. -/
import Derived.Test.YtdclhepjoifpiaaGreatDoorMom
import Derived.Deep.CutRange
namespace Go.Proofs.YtdclhepjoifpiaaGreatDoor
open Go.RowKit
namespace Jt
namespace R9
open Jk (lt_blk below_tr TkR fvO)

section
variable {W w w' : World} {P : Nat} {en : Nat × Nat} {d f me : Nat} {l : Bs} {S : List Tok} {A AL : Option Addr} {n c N cL : Nat}
set_option maxHeartbeats 32000000 in
set_option maxRecDepth 100000 in
theorem inside_list (H : RE W P l S A AL n c N cL) {f0 a0 : Nat} {tv0 : Value} {lab0 : Nat → Own} {X0 : List Nx} {x0 : Nx} (hV0 : ∀ g, g < f0 → ValC W P (.slice A n c) (.slice AL N cL) en l S g) (R0 : RP W w P (.slice A n c) (.slice AL N cL) en a0 tv0 0 0 lab0 X0) (hx0 : X0[me]? = some x0)
    (hkd : x0.nd.kind = 7) (hkeys : x0.nd.keys = []) (hd : d < 256) (hf : 2 * (S.drop a0).length + 2 ≤ f0) :
    Calls Tryz.prog 37 #[.pointer (some ⟨P, 0, none⟩), .int .i64 (me : Nat), .int .i64 (d : Nat)] w (InsG W P (.slice A n c) (.slice AL N cL) en l S d false me f0 true [] X0 a0) := by
  obtain ⟨i0, hi, hz0, hz1, hz2⟩ := info_parts (show (Tryz.prog.info? 3).map (fun i => (i.zero, i.size, i.bytes)) = some (some (.int .i64 0), 1, 8) by kernel_rfl)
  have hNS := H.len
  have hN6 := H.hsN
  have hn6 := H.hsm
  have H0 := Lib.hid H
  have hV := Lib.hid hV0
  have S_len := Lib.hid (show S.length ≤ 10000 by omega)
  have HREL := Lib.hid (show InsR W P (.slice A n c) (.slice AL N cL) en l S d false me f0 a0 X0 w f0 a0 tv0 lab0 X0 x0 true [] from ⟨R0, hx0, fun _ => hkeys, Nat.le_refl _, hf, fun _ _ h => h⟩)
  obtain ⟨gN, cX, etv, hnb, hgW, hgl4, hcx, hcm, hfree, hcells, hown⟩ := R0.node hx0
  subst etv
  have c5 := R0.cells.2.2.2.2.2.1
  have k0 := hcells 0 (.int .u8 7) (by show some (Value.int .u8 (x0.nd.kind : Nat)) = _; rw [hkd]; rfl)
  rw [Nat.add_zero] at k0
  have hme : me < X0.length := (List.getElem?_eq_some_iff.1 hx0).1
  obtain ⟨xl0, hxl0⟩ : ∃ xl, xl = X0.length := ⟨_, rfl⟩
  rw [← hxl0] at c5 hme
  clear H hV0 R0 hnb hgW hgl4 hcx hcm hfree hcells hown hkd hkeys hf hxl0
  go_enter Tryz.func37, Tryz.ntmps37
  go_wp2_with fail
  clear c5 k0 hme
  go_loopw [8, 9, 10] (fun fv _ _ wr => ∃ (f a : Nat) (tv : Value) (lab : Nat → Own) (X : List Nx) (x : Nx) (first : Bool) (ks : List Bs), fv = .bool first ∧ Hid (InsR W P (.slice A n c) (.slice AL N cL) en l S d false me f0 a0 X0 wr f a tv lab X x first ks)) (fun _ _ _ wr => S.length + 1 - atOf P wr)
  case atStart => exact ⟨_, _, _, _, _, _, _, _, rfl, HREL⟩
  case round =>
    clear HREL
    obtain ⟨f, a, tv, lab, X, x, first, ks, rfl, HI⟩ := hrel
    obtain ⟨R, hx, hks, hff, hfu, HG⟩ := HI.out
    replace hks := Lib.hid trivial
    obtain ⟨f1, rfl⟩ : ∃ f1, f = f1 + 1 := ⟨f - 1, by omega⟩
    have HAT := Lib.hid R.atOf
    by_cases haN : a < N
    case neg =>
      have HM := Lib.hid (more_no R haN hN6)
      have HE := Lib.hid (pl_no (l := l) (en := en) (f := f1) (d := d) (m := false) (first := first) (ks := ks) (drop_no (S := S) (a := a) (by omega)))
      have HGG := Lib.hid HG
      clear R HG hx hks HI
      go_wp2_with (go_at_call 33; refine HM.out.mono ?_; rintro e w2 ⟨rfl, R2⟩)
      go_ret
      exact HGG.out _ _ (ins_bad HE.out R2)
    obtain ⟨t, ht⟩ : ∃ t, S[a]? = some t := ⟨_, List.getElem?_eq_getElem (by omega)⟩
    have HM := Lib.hid (more_yes R haN hN6)
    have HR := Lib.hid R
    clear R HI
    go_upto_region 8 with (go_at_call 33; refine HM.out.mono ?_; rintro e w2 ⟨rfl, hb2⟩)
    have HK := Lib.hid (mark_any H0.out (HR.out.on hb2) ht 93)
    go_wp2_with fail
    refine HK.out.mono ?_
    rintro e w3 ⟨rfl, hb3⟩
    have R3 := HR.out.on (below_tr hb2 hb3)
    have HR3 := Lib.hid R3
    clear HK HM hb2 hb3
    cases hmk0 : mkB l t 93 with
    | true =>
      have HE := Lib.hid (pl_fin (en := en) (f := f1) (d := d) (m := false) (first := first) (ks := ks) ht hmk0)
      obtain ⟨gT, eT, _, hct⟩ := (H0.out.on R3).2.at_ (by omega)
      subst eT
      obtain ⟨_, _, q3⟩ := hct a t ht
      obtain ⟨gN, cX, etv, hnb, hgW, hgl4, hcx, hcm, hfree, hcells, hown⟩ := R3.node hx
      subst etv
      obtain ⟨_, c1, _, _, c4, c5, _⟩ := R3.cells
      have hme : me < X.length := (List.getElem?_eq_some_iff.1 hx).1
      obtain ⟨xl, hxl⟩ : ∃ xl, xl = X.length := ⟨_, rfl⟩
      rw [← hxl] at c5 hme
      have z6 := hfree (me * 7 + 6)
      have p6 := hcells 6 _ rfl
      obtain ⟨zT, hzT⟩ : ∃ z : Nat, z = t.2.2 := ⟨_, rfl⟩
      rw [← hzT] at q3
      have q3a : w3.cell? ⟨gT, a * 3 + 1 + 1, none⟩ = some (.int .i64 (zT : Nat)) := q3
      have HR4 := Lib.hid (R3.to_ (e := zT) hx hnb)
      have HX := Lib.hid hx
      have HGG := Lib.hid HG
      have HZT := Lib.hid hzT
      clear R3 hx HG hnb hfree hcells hown hct hcx hcm hxl hzT q3 hks
      go_upto_region 9 with fail
      go_region
      go_upto_region 10 with fail
      obtain ⟨W4, hW4⟩ : ∃ V, V = (w3.setCell ⟨gN, me * 7 + 5 + 1, none⟩ (.int .i64 (zT : Nat))).drew := ⟨_, rfl⟩
      have R4 : RP W W4 P (.slice A n c) (.slice (some ⟨gT, 0, none⟩) N cL) en a (.slice (some ⟨gN, 0, none⟩) X.length cX) 0 0 lab (X.set me ⟨Nd.setTo zT x.nd, x.v⟩) := by
        rw [hW4]; exact HR4.out.on (Below.refl _ _).drew
      rw [← hW4]
      clear hW4 q3a c1 c4 c5 z6 p6
      have c4 := R4.cells.2.2.2.2.1
      have z4 := R4.free 4
      have HR5 := Lib.hid R4.next
      clear R4
      go_wp2_with fail
      go_ret
      refine HGG.out _ _ ?_
      unfold InsG
      rw [HE.out]
      refine ⟨rfl, a + 1, _, _, _, HR5.out, rfl, ?_, by omega, by omega⟩
      rw [fill_end, map_set (f := Nd.setTo zT) HX.out, HZT.out]
    | false =>
      have hmk : mkB l t (enM false) = false := hmk0
      go_upto_region 12 with fail
      go_cut [60] from 21 to 97 (fun v wx => ∃ b : Bool, v = .bool b ∧ Hid (CommaR W P (.slice A n c) (.slice AL N cL) en l S a tv lab X first b wx))
      case first =>
        cases first with
        | true =>
          have HC := Lib.hid (CommaR.first (l := l) (S := S) (by omega) R3)
          clear R3 HG hks
          go_wp2_with fail
          go_meet
          exact ⟨false, rfl, HC⟩
        | false =>
          have HT := Lib.hid (take_any H0.out R3 44)
          clear R3 HG hks
          go_wp2_with fail
          refine HT.out.mono ?_
          rintro e w4 ht4
          obtain ⟨b, rfl, hc⟩ := CommaR.next ht ht4
          have HC := Lib.hid hc
          clear hc ht4
          cases b with
          | true =>
            go_wp2_with fail
            go_meet
            exact ⟨_, rfl, HC⟩
          | false =>
            go_wp2_with fail
            go_meet
            exact ⟨_, rfl, HC⟩
      case rest =>
        obtain ⟨b, rfl, HC⟩ := hcut
        obtain ⟨w4, hw4⟩ : ∃ w4, w4 = wc := ⟨_, rfl⟩
        subst hw4
        clear R3
        cases b with
        | true =>
          obtain ⟨cB, kB, hC, RB⟩ := HC.out
          have HI := Lib.hid (ins_bad (me := me) (X := X) (show pl (envL l en) (f1 + 1) d false first ks (S.drop a) = .bad cB kB by rw [pl_step ht hmk, hC]) RB)
          clear RB hC HC
          go_wp2_with fail
          go_ret
          exact HG _ _ HI.out
        | false =>
          obtain ⟨aC, ⟨haC, haC2⟩, hC, RC⟩ := HC.out
          have HRC := Lib.hid RC
          clear RC HC
          have HRE := HRC
          obtain ⟨aE, haEe⟩ : ∃ aE, aE = aC := ⟨_, rfl⟩
          obtain ⟨XE, hXE⟩ : ∃ XE, XE = X := ⟨_, rfl⟩
          obtain ⟨xE, hxEe⟩ : ∃ xE, xE = x := ⟨_, rfl⟩
          obtain ⟨labE, hlabE⟩ : ∃ labE, labE = lab := ⟨_, rfl⟩
          obtain ⟨k, hk⟩ : ∃ k : Bs, k = [] := ⟨_, rfl⟩
          obtain ⟨sp, hsp⟩ : ∃ sp : Nat × Nat, sp = (0, 0) := ⟨_, rfl⟩
          rw [← haEe, ← hXE, ← hlabE] at HRE
          have hxE : XE[me]? = some xE := by rw [hXE, hxEe]; exact hx
          have hlE : XE.length = X.length := by rw [hXE]
          have haE : a ≤ aE := by omega
          have haE2 : aE ≤ S.length := by omega
          have hmE' : XE.map Nx.nd = if false = true then (X.map Nx.nd).modify me (Nd.addKey k sp) else X.map Nx.nd := by rw [if_neg (by decide), hXE]
          replace hmE' := Lib.hid hmE'
          have hent' : entry (envL l en) false ks (S.drop aC) = .ok (k, sp) (S.drop aE) := by rw [entry_list, haEe, hk, hsp]
          clear haEe hXE hxEe hlabE hk hsp
          have hfu1 : 2 * (S.drop aE).length + 1 ≤ f1 := by
            have h1 : (S.drop aE).length ≤ (S.drop a).length := by rw [List.length_drop, List.length_drop]; omega
            omega
          have HVV := Lib.hid (hV.out f1 (by omega) w4 aE tv labE XE (d + 1) (by omega) hfu1 HRE.out)
          have hdw : wrap64 ((d : Int) + 1) = ((d + 1 : Nat) : Int) := by unfold wrap64; omega
          go_wp2_with fail
          refine (show Calls Tryz.prog 24 #[.pointer (some ⟨P, 0, none⟩), .int .i64 ((d : Int) + 1)] w4 _ from HVV.out).mono ?_
          rintro e wV hv
          unfold ValP at hv
          cases hpv : pv (envL l en) f1 (d + 1) (S.drop aE) with
          | out => exact absurd hpv (pv_in _ _ _ hfu1)
          | bad ce ke =>
            rw [hpv] at hv
            obtain ⟨z, rfl, _, _, _, _, RB⟩ := hv
            have HI := Lib.hid (ins_bad (me := me) (X := X) (show pl (envL l en) (f1 + 1) d false first ks (S.drop a) = .bad ce ke by rw [pl_step ht hmk, hC]; simp only; rw [hent']; simp only; rw [hpv]) RB)
            clear RB hpv
            go_wp2_with fail
            go_ret
            exact HG _ _ HI.out
          | ok v T3 =>
            rw [hpv] at hv
            obtain ⟨rfl, aV, tvV, labV, XV, RV, hdV, hmV, hltV, haV2⟩ := hv
            obtain ⟨xV, hxV, hndV⟩ := at_map hmV hxE
            obtain ⟨gN, cX, etv, hnb, hgW, hgl4, hcx, hcm, hfree, hcells, hown⟩ := RV.node hxV
            subst etv
            have hr2 := hown 2 (by omega)
            obtain ⟨A2, c2, e2, _⟩ := (Rr.of_own hr2).shape
            obtain ⟨n2, hn2⟩ : ∃ n, n = xV.nd.subs.length := ⟨_, rfl⟩
            replace e2 : xV.v 2 = .slice A2 n2 c2 := by rw [hn2]; exact e2
            have hfewE := (HRE.out.few.2 me xE hxE).2.2
            have hn2a : n2 ≤ aE := by rw [hn2, hndV]; exact hfewE
            obtain ⟨xl, hxl⟩ : ∃ xl, xl = XV.length := ⟨_, rfl⟩
            have hmeV : me < xl := by rw [hxl]; exact (List.getElem?_eq_some_iff.1 hxV).1
            obtain ⟨xi, hxi⟩ : ∃ xi, xi = XE.length := ⟨_, rfl⟩
            rw [← hxi]
            have HRV := Lib.hid RV
            have c5 := RV.cells.2.2.2.2.2.1
            have z2 := hcells 4 (.slice A2 n2 c2) (by rw [← e2]; rfl)
            have c5a : ∀ o, (wV.alloc o).cell? ⟨P, 5, none⟩ = some (.slice (some ⟨gN, 0, none⟩) xl cX) := fun o => by rw [World.cell?_alloc_lt _ _ _ RV.plt, hxl]; exact c5
            have z2a : ∀ o, (wV.alloc o).cell? ⟨gN, me * 7 + 4, none⟩ = some (.slice A2 n2 c2) := fun o => by rw [World.cell?_alloc_lt _ _ _ hgl4]; exact z2
            rw [← hxl] at c5
            have HR2 := Lib.hid (show wV.ownsRow W.heap.size 3 1 (.slice A2 n2 c2) n2 (xV.nd.subs.flatMap inC) by
              have h : wV.ownsRow W.heap.size (ety 2) (esz 2) (xV.v 2) (ecn xV.nd 2) (ecs xV.nd 2) := hr2
              rw [e2] at h
              have h2 : ecn xV.nd 2 = n2 := hn2.symm
              rw [h2] at h; exact h)
            have E2 := Lib.hid e2
            have HN2 := Lib.hid hn2
            have HNB := Lib.hid hnb
            have HXI := Lib.hid hxi
            have HC5 := Lib.hid (show ∀ w5 o, (wV.alloc o).grownBy w5 (Value.slice A2 n2 c2).ownBlock → (w5.cell? ⟨gN, me * 7 + 4, none⟩ = some (.slice A2 n2 c2) ∧ w5.frozen? ⟨gN, me * 7 + 4, none⟩ = false) ∧ w5.cell? ⟨P, 5, none⟩ = some (.slice (some ⟨gN, 0, none⟩) xl cX) from fun w5 o hg => by
              have e : w5.heap[gN]? = wV.heap[gN]? := HRV.out.kept hxV (j := 2) (by omega) HNB.out (by rw [E2.out]; exact hg)
              have e5 : w5.heap[P]? = wV.heap[P]? := by
                rw [hg.block P (by rw [alloc_size]; have := HRV.out.plt; omega) (fun e => by
                  have h1 := ((HRV.out.nt.e me xV hxV 2 (by omega)).r.lt P (by rw [E2.out]; exact e.symm)).1
                  have h2 := HRV.out.lt; omega)]
                exact (World.grownBy_alloc wV o none).block P HRV.out.plt (by simp)
              exact ⟨⟨(World.cell?_of_block (a := ⟨gN, me * 7 + 4, none⟩) e).trans z2, (World.frozen?_of_block (a := ⟨gN, me * 7 + 4, none⟩) e).trans (hfree _)⟩, (World.cell?_of_block (a := ⟨P, 5, none⟩) e5).trans c5⟩)
            have hbs : W.heap.size ≤ wV.heap.size := RV.size
            have hxl6 : xl ≤ 100000 ∧ n2 ≤ 10000 ∧ xi ≤ 10000 := by
              have h1 := RV.few.1; have h2 := HRE.out.few.1; rw [hxl, hxi]; omega
            clear RV hfree hcells hown hr2 e2 hn2 hnb hxl hxi
            go_upto_region 19 with fail
            go_region_law (refine step_own rfl (.tmp 92) (.tmp 94) 40 rfl W.heap.size 3 i0 (.int .i64 0) 1 8 Tryz.underlying40 hi hz0 hz1 hz2 rfl (by decide) _ n2 (xV.nd.subs.flatMap inC) rfl (HR2.out.alloc _) ⟨wV.heap.size, 0, none⟩ 1 1 [.int .i64 (xi : Nat)] rfl rfl (cell_one_new _ _ _) (by intro u hu; simp at hu; subst hu; rfl) (by unfold maxLen; omega) (by omega) (by simp; omega) ?_; intro v' w5 hown5 hg5 hl5; obtain ⟨⟨cc5, ff5⟩, cp5⟩ := HC5.out _ _ (by first | exact hg5 | exact gDrew hg5); obtain ⟨vA, vc, rfl, _⟩ := (Rr.of_own hown5).shape)
            all_goals
              have HR5 := Lib.hid (HRV.out.field (j := 2) (nd' := Nd.addSub xi xV.nd) hxV (by omega) (by rw [E2.out]; first | exact hg5 | exact gDrew hg5) (by
                  show w5.ownsRow W.heap.size 3 1 _ (xV.nd.subs ++ [xi]).length ((xV.nd.subs ++ [xi]).flatMap inC)
                  rw [List.length_append, List.flatMap_append, ← HN2.out]
                  exact hown5) (by rw [E2.out]; exact hl5) ⟨rfl, rfl, rfl⟩ (fun k hk hk2 => by
                  have : k = 0 ∨ k = 1 := by omega
                  rcases this with rfl | rfl <;> exact ⟨rfl, rfl⟩) HNB.out ⟨(HRV.out.few.2 me xV hxV).1, (HRV.out.few.2 me xV hxV).2.1, by
                    show (xV.nd.subs ++ [xi]).length ≤ aV
                    rw [List.length_append, List.length_singleton]; have := HN2.out; omega⟩)
              obtain ⟨X5, hX5⟩ : ∃ X5, X5 = XV.set me ⟨Nd.addSub xi xV.nd, upV xV.v 2 (.slice vA (n2 + 1) vc)⟩ := ⟨_, rfl⟩
              have hx5 : X5[me]? = some ⟨Nd.addSub xi xV.nd, upV xV.v 2 (.slice vA (n2 + 1) vc)⟩ := by rw [hX5, List.getElem?_set, if_pos rfl, if_pos (List.getElem?_eq_some_iff.1 hxV).1]
              have hm5 : X5.map Nx.nd = ((if false = true then (X.map Nx.nd).modify me (Nd.addKey k sp) else X.map Nx.nd) ++ v.nds X.length).modify me (Nd.addSub X.length) := by
                first | (rw [hX5, map_set (f := Nd.addSub xi) hxV, hmV, hmE'.out, HXI.out, hlE]; done) | (rw [hX5, map_set (f := Nd.addSub xi) hxV, hmV, hmE'.out, HXI.out, hlE]; simp)
              have HREL := Lib.hid (show InsR W P (.slice A n c) (.slice AL N cL) en l S d false me f0 a0 X0 (w5.setCell ⟨gN, me * 7 + 4, none⟩ (.slice vA (n2 + 1) vc)) f1 aV _ _ X5 _ false (ks ++ [k]) from
                ⟨by rw [hX5]; exact HR5.out, hx5, fun h => (by cases h), by omega, by
                  have h1 : (S.drop aV).length + 1 ≤ (S.drop a).length := by rw [List.length_drop, List.length_drop]; omega
                  omega, fun e w' h => HG e w' (ins_step (fun r hr => by rw [pl_step ht hmk, hC]; simp only; rw [hent']; simp only; rw [hpv]; simp only; rw [← hdV, hr]) hm5 (by rw [← hlE]; exact (List.getElem?_eq_some_iff.1 hxE).1) (by omega) h)⟩)
              have HAT5 := Lib.hid (show atOf P (w5.setCell ⟨gN, me * 7 + 4, none⟩ (.slice vA (n2 + 1) vc)) = aV from HREL.out.1.atOf)
              clear hown5 hg5 hl5 cc5 ff5 cp5 HR5 hX5 hx5 hm5
              go_wp2_with fail
              refine ⟨⟨_, _, _, _, _, _, _, _, rfl, HREL⟩, ?_⟩
              rw [HAT5.out, HAT.out]
              omega
end
end R9
end Jt
end Go.Proofs.YtdclhepjoifpiaaGreatDoor
