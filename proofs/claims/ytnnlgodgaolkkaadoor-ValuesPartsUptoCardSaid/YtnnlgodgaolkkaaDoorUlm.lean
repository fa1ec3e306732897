/- The law ValuesParts, walked, over what landed. -/
import Derived.Test.YtnnlgodgaolkkaaDoorUqm
import Derived.Deep.CutRange
import Derived.Deep.RegionHeldLaw
namespace Go.Proofs.YtnnlgodgaolkkaaDoor
open Go.RowKit
namespace Va
set_option maxRecDepth 100000

theorem pair_vk {w : World} {g : Nat} {a b c d p q r s : Value} {x y : V} {T : TypeId} (hg : w.heap[g]? = some (.cells #[a, b, c, d, p, q, r, s] T)) (hx : Vm w (.agg #[a, b, c, d]) x) (hy : Vm w (.agg #[p, q, r, s]) y) :
    Vm w (.agg #[.int .u8 7, .string ⟨#[]⟩, .slice (some ⟨g, 0, none⟩) 2 2, .slice none 0 0]) (.mk 7 [] [x, y] []) :=
  two_vk w (fun _ => True) (k := 7) (by omega) rfl hg trivial hx hy rfl (Nat.le_refl _) (Nat.zero_le _) (fun _ => rfl) (fun h => absurd h (by simp)) (fun h => absurd h (by simp))
set_option maxHeartbeats 64000000 in
set_option maxRecDepth 100000 in
theorem partsL_any {Lo : Nat} {Tb : World → Prop} {κ : V → Bs} (L : Ld Lo Tb κ) (w : World) (hT : Tb w) {x y : V} {v u : Value} (hv : Vm w v x) (hu : Vm w u y) (hx : wt x ≤ 1048576) (hy : wt y ≤ 1048576) :
    Calls Tryd.prog 4 #[v, u] w fun e w' => e = .returned (.bool true) ∧ Below w.heap.size w w' := by
  have HL := Lib.hid L
  have HT := Lib.hid hT
  clear L hT
  have CL := Lib.hid (fun (X : World) (hb : Below w.heap.size w X) => lives_any HL.out X (HL.out.up HT.out hb))
  have HVa := Lib.hid hv
  have HVb := Lib.hid hu
  have CGa := Lib.hid (fun (X : World) (hb : Below w.heap.size w X) => great_any X (by omega) (hv.on hb))
  have CMa := Lib.hid (fun (hg : decide (1500 < wt x) = false) (X : World) (hb : Below w.heap.size w X) => HL.out.may X (HL.out.up HT.out hb) (hv.on hb) (by have := of_decide_eq_false hg; omega))
  obtain ⟨Ga, hGa⟩ : ∃ g, g = decide (1500 < wt x) := ⟨_, rfl⟩
  obtain ⟨Ma, hMa⟩ : ∃ g, g = may x := ⟨_, rfl⟩
  rw [← hGa] at CGa CMa
  rw [← hMa] at CMa
  have HGa := Lib.hid hGa
  have HMa := Lib.hid hMa
  obtain ⟨ka, Aa, Ba, na, ca, ma, da, Ta, rfl⟩ : ∃ (k : Nat) (A B : Option Addr) (n c m d : Nat) (T : ByteArray), v = .agg #[.int .u8 k, .string T, .slice A n c, .slice B m d] := by
    obtain ⟨k, t, A, B, n, c, m, d, e⟩ := vshape hv
    exact ⟨k, A, B, n, c, m, d, t, e⟩
  have CGb := Lib.hid (fun (X : World) (hb : Below w.heap.size w X) => great_any X (by omega) (hu.on hb))
  have CMb := Lib.hid (fun (hg : decide (1500 < wt y) = false) (X : World) (hb : Below w.heap.size w X) => HL.out.may X (HL.out.up HT.out hb) (hu.on hb) (by have := of_decide_eq_false hg; omega))
  obtain ⟨Gb, hGb⟩ : ∃ g, g = decide (1500 < wt y) := ⟨_, rfl⟩
  obtain ⟨Mb, hMb⟩ : ∃ g, g = may y := ⟨_, rfl⟩
  rw [← hGb] at CGb CMb
  rw [← hMb] at CMb
  have HGb := Lib.hid hGb
  have HMb := Lib.hid hMb
  obtain ⟨kb, Ab, Bb, nb, cb, mb, db, Tb, rfl⟩ : ∃ (k : Nat) (A B : Option Addr) (n c m d : Nat) (T : ByteArray), u = .agg #[.int .u8 k, .string T, .slice A n c, .slice B m d] := by
    obtain ⟨k, t, A, B, n, c, m, d, e⟩ := vshape hu
    exact ⟨k, A, B, n, c, m, d, t, e⟩
  clear hv hu hGa hGb hMa hMb hx hy
  obtain ⟨W1, hW1⟩ : ∃ W, W = w.alloc (vO (.int .u8 ka) (.string Ta) (.slice Aa na ca) (.slice Ba ma da)) := ⟨_, rfl⟩
  obtain ⟨W2, hW2⟩ : ∃ W, W = W1.alloc (vO (.int .u8 kb) (.string Tb) (.slice Ab nb cb) (.slice Bb mb db)) := ⟨_, rfl⟩
  have hb1 : Below w.heap.size w W1 := by rw [hW1]; exact below_new ..
  have hb2 : Below W1.heap.size W1 W2 := by rw [hW2]; exact below_new ..
  have HXa := Lib.hid (show Bx W2 w.heap.size (.int .u8 ka) (.string Ta) (.slice Aa na ca) (.slice Ba ma da) from (show Bx W1 w.heap.size (.int .u8 ka) (.string Ta) (.slice Aa na ca) (.slice Ba ma da) from by rw [hW1]; exact Bx.new ..).on hb2)
  have HXb := Lib.hid (show Bx W2 W1.heap.size (.int .u8 kb) (.string Tb) (.slice Ab nb cb) (.slice Bb mb db) from by rw [hW2]; exact Bx.new ..)
  have HB2 := Lib.hid (below_tr hb1 hb2)
  have HS1 := Lib.hid (show w.heap.size + 1 = W1.heap.size by rw [hW1]; show _ = (w.heap.push _).size; rw [Array.size_push])
  have HW1 := Lib.hid hW1
  have HW2 := Lib.hid hW2
  clear hW1 hW2 hb1 hb2
  go_enter Tryd.func4, Tryd.ntmps4
  go_upto_region 1 with fail
  rw [← HW1.out, ← HW2.out]
  obtain ⟨gb, hgb⟩ : ∃ h, h = w.heap.size + 1 := ⟨_, rfl⟩
  obtain ⟨ga, hga⟩ : ∃ h, h = w.heap.size := ⟨_, rfl⟩
  rw [← HS1.out, ← hgb] at HXb
  rw [← hga] at HXa
  rw [← hgb, ← hga]
  clear HW1 HW2 HS1 hgb hga
  have HC := Lib.hid (Below.refl W2.heap.size W2)
  have Xa := HXa.out.on HC.out
  have a0 := Xa.c0
  have a1 := Xa.c1
  have a2 := Xa.c2
  have a3 := Xa.c3
  clear Xa
  have Xb := HXb.out.on HC.out
  have b0 := Xb.c0
  have b1 := Xb.c1
  have b2 := Xb.c2
  have b3 := Xb.c3
  clear Xb
  go_wp2_with fail
  refine (CGa.out _ (below_tr HB2.out HC.out)).mono ?_
  rintro e w3 ⟨he, hb⟩
  have he : e = .returned (.bool Ga) := he
  subst he
  have HC := Lib.hid (below_tr HC.out hb)
  clear hb a0 a1 a2 a3 b0 b1 b2 b3
  have Xa := HXa.out.on HC.out
  have a0 := Xa.c0
  have a1 := Xa.c1
  have a2 := Xa.c2
  have a3 := Xa.c3
  clear Xa
  have Xb := HXb.out.on HC.out
  have b0 := Xb.c0
  have b1 := Xb.c1
  have b2 := Xb.c2
  have b3 := Xb.c3
  clear Xb
  cases Ga with
  | true =>
    go_wp2_with fail
    refine (CL.out _ (below_tr HB2.out HC.out)).mono ?_
    rintro e wl ⟨rfl, hbl⟩
    have HF := Lib.hid (below_tr (below_tr HB2.out HC.out) hbl)
    clear hbl
    go_wp2_with fail
    go_ret
    exact ⟨rfl, HF.out⟩
  | false =>
    go_wp2_with fail
    refine (CGb.out _ (below_tr HB2.out HC.out)).mono ?_
    rintro e w4 ⟨he, hb⟩
    have he : e = .returned (.bool Gb) := he
    subst he
    have HC := Lib.hid (below_tr HC.out hb)
    clear hb a0 a1 a2 a3 b0 b1 b2 b3
    have Xa := HXa.out.on HC.out
    have a0 := Xa.c0
    have a1 := Xa.c1
    have a2 := Xa.c2
    have a3 := Xa.c3
    clear Xa
    have Xb := HXb.out.on HC.out
    have b0 := Xb.c0
    have b1 := Xb.c1
    have b2 := Xb.c2
    have b3 := Xb.c3
    clear Xb
    cases Gb with
    | true =>
      go_wp2_with fail
      refine (CL.out _ (below_tr HB2.out HC.out)).mono ?_
      rintro e wl ⟨rfl, hbl⟩
      have HF := Lib.hid (below_tr (below_tr HB2.out HC.out) hbl)
      clear hbl
      go_wp2_with fail
      go_ret
      exact ⟨rfl, HF.out⟩
    | false =>
      go_wp2_with fail
      refine (CMa.out (by first | rfl | trivial) _ (below_tr HB2.out HC.out)).mono ?_
      rintro e w5 ⟨he, hb⟩
      have he : e = .returned (.bool Ma) := he
      subst he
      have HC := Lib.hid (below_tr HC.out hb)
      clear hb a0 a1 a2 a3 b0 b1 b2 b3
      have Xa := HXa.out.on HC.out
      have a0 := Xa.c0
      have a1 := Xa.c1
      have a2 := Xa.c2
      have a3 := Xa.c3
      clear Xa
      have Xb := HXb.out.on HC.out
      have b0 := Xb.c0
      have b1 := Xb.c1
      have b2 := Xb.c2
      have b3 := Xb.c3
      clear Xb
      cases Ma with
      | false =>
        go_wp2_with fail
        refine (CL.out _ (below_tr HB2.out HC.out)).mono ?_
        rintro e wl ⟨rfl, hbl⟩
        have HF := Lib.hid (below_tr (below_tr HB2.out HC.out) hbl)
        clear hbl
        go_wp2_with fail
        go_ret
        exact ⟨rfl, HF.out⟩
      | true =>
        go_wp2_with fail
        refine (CMb.out (by first | rfl | trivial) _ (below_tr HB2.out HC.out)).mono ?_
        rintro e w6 ⟨he, hb⟩
        have he : e = .returned (.bool Mb) := he
        subst he
        have HC := Lib.hid (below_tr HC.out hb)
        clear hb a0 a1 a2 a3 b0 b1 b2 b3
        have Xa := HXa.out.on HC.out
        have a0 := Xa.c0
        have a1 := Xa.c1
        have a2 := Xa.c2
        have a3 := Xa.c3
        clear Xa
        have Xb := HXb.out.on HC.out
        have b0 := Xb.c0
        have b1 := Xb.c1
        have b2 := Xb.c2
        have b3 := Xb.c3
        clear Xb
        cases Mb with
        | false =>
          go_wp2_with fail
          refine (CL.out _ (below_tr HB2.out HC.out)).mono ?_
          rintro e wl ⟨rfl, hbl⟩
          have HF := Lib.hid (below_tr (below_tr HB2.out HC.out) hbl)
          clear hbl
          go_wp2_with fail
          go_ret
          exact ⟨rfl, HF.out⟩
        | true =>
          have HWa := Lib.hid (show wt x ≤ 1500 from by have := of_decide_eq_false HGa.out.symm; omega)
          have HWb := Lib.hid (show wt y ≤ 1500 from by have := of_decide_eq_false HGb.out.symm; omega)
          have HMx := Lib.hid (show may x = true from HMa.out.symm)
          have HMy := Lib.hid (show may y = true from HMb.out.symm)
          clear CGa CGb CMa CMb
          go_wp2_with fail
          clear a0 a1 a2 a3 b0 b1 b2 b3
          go_loopw [5, 6, 7, 8, 9, 10] (fun a _ _ _ _ _ wx => ∃ i : Nat, i ≤ ma ∧ a = .int .i64 i ∧ Hid (Below W2.heap.size W2 wx)) (fun a _ _ _ _ _ _ => ma - (intOf a).toNat)
          case atStart => exact ⟨0, Nat.zero_le _, rfl, HC⟩
          case round =>
            obtain ⟨i, hi, rfl, HC⟩ := hrel
            have Xa := HXa.out.on HC.out
            have a0 := Xa.c0
            have a1 := Xa.c1
            have a2 := Xa.c2
            have a3 := Xa.c3
            clear Xa
            have Xb := HXb.out.on HC.out
            have b0 := Xb.c0
            have b1 := Xb.c1
            have b2 := Xb.c2
            have b3 := Xb.c3
            clear Xb
            by_cases hlt : i < ma
            · obtain ⟨l, ks, f, s, z, gk, ok, gl, ol, hxe, hk8, hT0, hnm, hml, hmk, hc1, hc2, hd1, hd2, rfl, rfl, hgk, hgl, hs, hz, hK, hkc, hLc, hV, hone⟩ := map_ent HVa.out HMx.out hlt
              clear hk8 hT0
              have hin : i < na := by omega
              have hn5 : na ≤ 1500 := by have h1 := wtL_len l; have h2 := HWa.out; rw [hxe, wt] at h2; omega
              have hm5 : ma ≤ 1500 := by omega
              have hc1 : na ≤ ca := by omega
              have HNA := Lib.hid (show na = l.length by omega)
              have HMA := Lib.hid hmk
              have HKL := Lib.hid (show ks.length = l.length by omega)
              have HVz := Lib.hid (show Vm w (.agg #[.int .u8 ka, .string Ta, .slice (some ⟨gl, ol, none⟩) na ca, .slice (some ⟨gk, ok, none⟩) ma da]) (.mk 8 [] l ks) from by rw [← hxe]; exact HVa.out)
              have HWz := Lib.hid (show wt (.mk 8 [] l ks) ≤ 1500 from by rw [← hxe]; exact HWa.out)
              have HMz := Lib.hid (show may (.mk 8 [] l ks) = true from by rw [← hxe]; exact HMx.out)
              have HSi := Lib.hid hs
              have HZi := Lib.hid hz
              have HTX := Lib.hid hK
              have HLC := Lib.hid hLc
              have HVE := Lib.hid hV
              have HON := Lib.hid hone
              have HXE := Lib.hid hxe
              have hgk := Lib.hid hgk
              have hgl := Lib.hid hgl
              obtain ⟨S, hS⟩ : ∃ S, S = txt s := ⟨_, rfl⟩
              rw [← hS] at hkc
              have HS := Lib.hid hS
              have HKC := Lib.hid hkc
              obtain ⟨m1, hm1⟩ : ∃ m, ma = m + 1 := ⟨ma - 1, by omega⟩
              obtain ⟨n1, hn1⟩ : ∃ m, na = m + 1 := ⟨na - 1, by omega⟩
              have HM1 := Lib.hid hm1
              have HN1 := Lib.hid hn1
              have BW := Lib.hid (below_tr HB2.out HC.out)
              have HMI := Lib.hid (may_sub HMz.out hz)
              have HWI := Lib.hid (show wt z ≤ 1500 from by have h1 := wt_sub (k := 8) (t := []) (ks := ks) hz; have h2 := HWz.out; omega)
              clear hxe hnm hml hmk hs hz hK hLc hV hone hS hkc hm1 hn1
              have k0 := cell_old BW.out hgk.out HKC.out
              go_upto_region 6 with fail
              go_cut [6, 7] from 30 to 128 (fun a b wx => ∃ (gv uk : Nat) (ut : ByteArray) (uA uB : Option Addr) (un uc um ud : Nat), a = .pointer (some ⟨gv, 0, none⟩) ∧ b = .bool true ∧ Hid (GV wr wx gv (.int .u8 uk) (.string ut) (.slice uA un uc) (.slice uB um ud) z))
              case first =>
                as_aux_lemma =>
                  have CG := Lib.hid (fun (X : World) (hb : Below wr.heap.size wr X) => get_in HL.out X (HL.out.up HT.out (below_tr BW.out hb)) (HVz.out.on (below_tr BW.out hb)) (by have := HWz.out; omega) HMz.out HSi.out HZi.out HS.out)
                  have a00 := a0
                  have SS := Lib.hid (fun (X : World) (hb : Below wr.heap.size wr X) => show Below wr.heap.size wr X ∧ X.cell? ⟨ga, 0, none⟩ = some (.int .u8 ka) ∧ X.cell? ⟨ga, 1, none⟩ = some (.string Ta) ∧ X.cell? ⟨ga, 2, none⟩ = some (.slice (some ⟨gl, ol, none⟩) na ca) ∧ X.cell? ⟨ga, 3, none⟩ = some (.slice (some ⟨gk, ok, none⟩) ma da) ∧ X.cell? ⟨gk, ok + i, none⟩ = some (.string S) from ⟨hb, cell_old hb (World.block_lt_of_cell? wr ⟨ga, 0, none⟩ a0) a0, cell_old hb (World.block_lt_of_cell? wr ⟨ga, 0, none⟩ a0) a1, cell_old hb (World.block_lt_of_cell? wr ⟨ga, 0, none⟩ a0) a2, cell_old hb (World.block_lt_of_cell? wr ⟨ga, 0, none⟩ a0) a3, cell_old hb (World.block_lt_of_cell? wr ⟨gk, ok + i, none⟩ k0) k0⟩)
                  have S0 := Lib.hid (show Below wr.heap.size wr wr.drew from (Below.refl _ _).drew)
                  have S1 := Lib.hid (fun (o : Obj) => show Below wr.heap.size wr (wr.alloc o).drew from ((Below.refl _ _).alloc (Nat.le_refl _) _).drew)
                  have S2 := Lib.hid (fun (X : World) (o : Obj) (h : Below wr.heap.size wr X) => show Below wr.heap.size wr (X.alloc o) from h.alloc h.size _)
                  have S4 := Lib.hid (fun (X : World) (a b c d : Value) (h : Below wr.heap.size wr X) => show Below wr.heap.size wr ((((X.setCell ⟨wr.heap.size, 0, none⟩ a).setCell ⟨wr.heap.size, 1, none⟩ b).setCell ⟨wr.heap.size, 2, none⟩ c).setCell ⟨wr.heap.size, 3, none⟩ d) from (((h.setCell (p := ⟨wr.heap.size, 0, none⟩) (Nat.le_refl _) _).setCell (p := ⟨wr.heap.size, 1, none⟩) (Nat.le_refl _) _).setCell (p := ⟨wr.heap.size, 2, none⟩) (Nat.le_refl _) _).setCell (p := ⟨wr.heap.size, 3, none⟩) (Nat.le_refl _) _)
                  clear a00
                  go_region_held_law (fun X => Below wr.heap.size wr X ∧ X.cell? ⟨ga, 0, none⟩ = some (.int .u8 ka) ∧ X.cell? ⟨ga, 1, none⟩ = some (.string Ta) ∧ X.cell? ⟨ga, 2, none⟩ = some (.slice (some ⟨gl, ol, none⟩) na ca) ∧ X.cell? ⟨ga, 3, none⟩ = some (.slice (some ⟨gk, ok, none⟩) ma da) ∧ X.cell? ⟨gk, ok + i, none⟩ = some (.string S))
                    (first | (with_reducible exact SS.out _ S0.out) | (with_reducible exact SS.out _ (S1.out _)) | (refine SS.out _ ?_; with_reducible assumption) | (refine SS.out _ (S2.out _ _ ?_); with_reducible assumption) | (refine SS.out _ (S4.out _ _ _ _ _ ?_); with_reducible assumption))
                    ((go_simp; go_at_call 16; refine (CG.out _ (And.left (by assumption))).mono ?_; rintro e w5 ⟨⟨u, rfl, hu⟩, hb⟩; obtain ⟨uk, ut, uA, uB, un, uc, um, ud, rfl⟩ := vk_shape hu; have HU := Lib.hid hu; have hb5 := below_tr (show Below wr.heap.size wr _ from And.left (by assumption)) hb; clear hu; first | (have HBE := Lib.hid (show Below (wr.alloc (vO (.int .u8 0) (.string ⟨#[]⟩) (.slice none 0 0) (.slice none 0 0))).drew.heap.size (wr.alloc (vO (.int .u8 0) (.string ⟨#[]⟩) (.slice none 0 0) (.slice none 0 0))).drew w5 from by with_reducible exact hb); obtain ⟨⟨z0, z1, z2, z3⟩, t0, t1, t2, t3⟩ := vcells (blk_up HBE.out (show (wr.alloc (vO (.int .u8 0) (.string ⟨#[]⟩) (.slice none 0 0) (.slice none 0 0))).drew.heap[wr.heap.size]? = some (vO (.int .u8 0) (.string ⟨#[]⟩) (.slice none 0 0) (.slice none 0 0)) from heap_alloc_new wr _)); clear hb) | (have HBL := Lib.hid hb; clear hb)))
                  all_goals
                    try simp only [Act.put, List.getElem?_toArray, List.getElem?_cons_succ, List.getElem?_cons_zero, List.getElem_toArray, List.getElem_cons_succ, List.getElem_cons_zero, List.setIfInBounds_toArray, List.set_cons_zero, List.set_cons_succ]
                    try go_wp2_with fail
                    go_meet
                    first
                      | exact ⟨_, _, _, _, _, _, _, _, _, rfl, rfl, Lib.hid (GV.late hb5 HU.out)⟩
                      | exact ⟨_, _, _, _, _, _, _, _, _, rfl, rfl, Lib.hid (GV.early HBE.out rfl HU.out)⟩
              case rest =>
                obtain ⟨gv, uk, ut, uA, uB, un, uc, um, ud, rfl, rfl, HG⟩ := hcut
                obtain ⟨wA, hwA⟩ : ∃ q, q = wc := ⟨_, rfl⟩
                subst hwA
                clear a0 a1 a2 a3 b0 b1 b2 b3 k0
                have HCA := Lib.hid (below_tr HC.out HG.out.below)
                have BA := Lib.hid (below_tr HB2.out HCA.out)
                go_upto_region 7 with fail
                go_cut [72] from 30 to 128 (fun a wx => a = .bool false ∧ Hid (Below wA.heap.size wA wx))
                case first =>
                  as_aux_lemma =>
                    have Xa := HXa.out.on HCA.out
                    have Xv := HG.out.bx
                    obtain ⟨e0, he0⟩ : ∃ e, e = f i 0 := ⟨_, rfl⟩
                    obtain ⟨e1, he1⟩ : ∃ e, e = f i 1 := ⟨_, rfl⟩
                    obtain ⟨e2, he2⟩ : ∃ e, e = f i 2 := ⟨_, rfl⟩
                    obtain ⟨e3, he3⟩ : ∃ e, e = f i 3 := ⟨_, rfl⟩
                    have il : i < l.length := by rw [← HNA.out]; exact hin
                    have Ka0 := fun s : Kept wA => s.cell Xa.c0
                    have Ka1 := fun s : Kept wA => s.cell Xa.c1
                    have Ka2 := fun s : Kept wA => s.cell Xa.c2
                    have Ka3 := fun s : Kept wA => s.cell Xa.c3
                    have Kv0 := fun s : Kept wA => s.cell Xv.c0
                    have Kv1 := fun s : Kept wA => s.cell Xv.c1
                    have Kv2 := fun s : Kept wA => s.cell Xv.c2
                    have Kv3 := fun s : Kept wA => s.cell Xv.c3
                    have Kl0 := fun s : Kept wA => s.cell (show wA.cell? ⟨gl, ol + i * 4, none⟩ = some e0 from he0 ▸ cell_old BA.out hgl.out (HLC.out i il 0 (by decide)))
                    have Kl1 := fun s : Kept wA => s.cell (show wA.cell? ⟨gl, ol + i * 4 + 1, none⟩ = some e1 from he1 ▸ cell_old BA.out hgl.out (HLC.out i il 1 (by decide)))
                    have Kl2 := fun s : Kept wA => s.cell (show wA.cell? ⟨gl, ol + i * 4 + 2, none⟩ = some e2 from he2 ▸ cell_old BA.out hgl.out (HLC.out i il 2 (by decide)))
                    have Kl3 := fun s : Kept wA => s.cell (show wA.cell? ⟨gl, ol + i * 4 + 3, none⟩ = some e3 from he3 ▸ cell_old BA.out hgl.out (HLC.out i il 3 (by decide)))
                    have HEV := Lib.hid (show Vm w (.agg #[e0, e1, e2, e3]) z from by rw [he0, he1, he2, he3]; exact HVE.out i z HZi.out)
                    obtain ⟨sv, hsv⟩ : ∃ n : Int, n = ((sz z : Nat) : Int) := ⟨_, rfl⟩
                    obtain ⟨sa, hsa⟩ : ∃ n : Int, n = ((sz (.mk 8 [] l ks) : Nat) : Int) := ⟨_, rfl⟩
                    obtain ⟨dv, hdv⟩ : ∃ n : Int, n = ((dp z : Nat) : Int) := ⟨_, rfl⟩
                    obtain ⟨dA, hdA⟩ : ∃ n : Int, n = ((dp (.mk 8 [] l ks) : Nat) : Int) := ⟨_, rfl⟩
                    have g1 : decide (sa ≤ sv) = false := decide_eq_false (by have := sz_sub (k := 8) (t := []) (ks := ks) HZi.out; omega)
                    have g2 : decide (dA ≤ dv) = false := decide_eq_false (by have := dp_sub (t := []) (ks := ks) HZi.out; omega)
                    have CS := Lib.hid (fun (X : World) (hb : Below wA.heap.size wA X) => same_in HL.out X (HL.out.up HT.out (below_tr BA.out hb)) (HG.out.vm.on hb) (HEV.out.on (below_tr BA.out hb)) (by have := HWI.out; omega) HMI.out)
                    have CZv := Lib.hid (fun (X : World) (hb : Below wA.heap.size wA X) => size_in HL.out X (HL.out.up HT.out (below_tr BA.out hb)) (HG.out.vm.on hb) (by have := HWI.out; omega) HMI.out hsv)
                    have CZa := Lib.hid (fun (X : World) (hb : Below wA.heap.size wA X) => size_in HL.out X (HL.out.up HT.out (below_tr BA.out hb)) (HVz.out.on (below_tr BA.out hb)) (by have := HWz.out; omega) HMz.out hsa)
                    have CDv := Lib.hid (fun (X : World) (hb : Below wA.heap.size wA X) => deep_in HL.out X (HL.out.up HT.out (below_tr BA.out hb)) (HG.out.vm.on hb) (by have := HWI.out; omega) HMI.out hdv)
                    have CDa := Lib.hid (fun (X : World) (hb : Below wA.heap.size wA X) => deep_in HL.out X (HL.out.up HT.out (below_tr BA.out hb)) (HVz.out.on (below_tr BA.out hb)) (by have := HWz.out; omega) HMz.out hdA)
                    clear hsv hsa hdv hdA he0 he1 he2 he3 Xa Xv il
                    refine reg_lit (C := fun wx => ∃ s : Kept wA, wx = s.wx) (by kernel_rfl) (by kernel_rfl) ⟨⟨_, (Below.refl _ _).drew⟩, rfl⟩ ?_
                    iterate 9 (go_big_quiet_step (fail))
                    go_big_quiet_want
                    go_big_quiet_op
                    refine ⟨.bool true, fun s => (CS.out s.wx s.held).mono ?_, ?_⟩
                    · rintro e w3 ⟨he, hb⟩
                      obtain rfl : e = .returned (.bool true) := he
                      exact Kept.out hb
                    go_big_quiet_on
                    iterate 4 (go_big_quiet_step (fail))
                    go_big_quiet_want
                    go_big_quiet_op
                    refine ⟨.int .i64 sv, fun s => (CZv.out s.wx s.held).mono ?_, ?_⟩
                    · rintro e w3 ⟨he, hb⟩
                      obtain rfl : e = .returned (.int .i64 sv) := he
                      exact Kept.out hb
                    go_big_quiet_on
                    iterate 1 (go_big_quiet_step (fail))
                    go_big_quiet_want
                    go_big_quiet_op
                    refine ⟨.int .i64 sa, fun s => (CZa.out s.wx s.held).mono ?_, ?_⟩
                    · rintro e w3 ⟨he, hb⟩
                      obtain rfl : e = .returned (.int .i64 sa) := he
                      exact Kept.out hb
                    go_big_quiet_on
                    iterate 4 (go_big_quiet_step (fail))
                    go_big_quiet_want
                    go_big_quiet_op
                    refine ⟨.int .i64 dv, fun s => (CDv.out s.wx s.held).mono ?_, ?_⟩
                    · rintro e w3 ⟨he, hb⟩
                      obtain rfl : e = .returned (.int .i64 dv) := he
                      exact Kept.out hb
                    go_big_quiet_on
                    iterate 1 (go_big_quiet_step (fail))
                    go_big_quiet_want
                    go_big_quiet_op
                    refine ⟨.int .i64 dA, fun s => (CDa.out s.wx s.held).mono ?_, ?_⟩
                    · rintro e w3 ⟨he, hb⟩
                      obtain rfl : e = .returned (.int .i64 dA) := he
                      exact Kept.out hb
                    go_big_quiet_on
                    iterate 2 (go_big_quiet_step (fail))
                    refine wpQuiet_nil ?_
                    rintro w9 ⟨⟨wx, ox0⟩, e⟩
                    have HC9 := Lib.hid (show Below wA.heap.size wA w9 from by rw [e]; exact ox0)
                    clear e ox0 Ka0 Ka1 Ka2 Ka3 Kv0 Kv1 Kv2 Kv3 Kl0 Kl1 Kl2 Kl3
                    try go_wp2_with fail
                    go_meet
                    exact ⟨rfl, HC9⟩
                case rest =>
                  obtain ⟨rfl, HC7⟩ := hcut
                  obtain ⟨wB, hwB⟩ : ∃ q, q = wc := ⟨_, rfl⟩
                  subst hwB
                  have HCB := Lib.hid (below_tr HCA.out HC7.out)
                  have BB := Lib.hid (below_tr HB2.out HCB.out)
                  have Xa := HXa.out.on HCB.out
                  have a2 := Xa.c2
                  have a3 := Xa.c3
                  have HLA := Lib.hid Xa.lt
                  clear Xa
                  obtain ⟨i1, hi1, hz0, hz1, hz2⟩ := info_parts (show (Tryd.prog.info? 26).map (fun i => (i.zero, i.size, i.bytes)) = some (some (.agg #[.int .u8 0, .string ⟨#[]⟩, .slice none 0 0, .slice none 0 0]), 4, 72) by kernel_rfl)
                  obtain ⟨i9, hi9, y0, y1, y2⟩ := info_parts (show (Tryd.prog.info? 9).map (fun i => (i.zero, i.size, i.bytes)) = some (some (.string ⟨#[]⟩), 1, 16) by kernel_rfl)
                  obtain ⟨K1, hK1⟩ : ∃ K, K = (((ks.drop 0).take i).map fun t => Value.string (txt t)) := ⟨_, rfl⟩
                  obtain ⟨K2, hK2⟩ : ∃ K, K = (((ks.drop (i + 1)).take (ma - (i + 1))).map fun t => Value.string (txt t)) := ⟨_, rfl⟩
                  obtain ⟨L1, hL1⟩ : ∃ K, K = cels f 0 i := ⟨_, rfl⟩
                  obtain ⟨L2, hL2⟩ : ∃ K, K = cels f (i + 1) (na - (i + 1)) := ⟨_, rfl⟩
                  have lk := HMA.out
                  have ll := HNA.out
                  obtain ⟨o2, ho2⟩ : ∃ o2, o2 = if da = i + 1 then ok else ok + (i + 1) * 1 := ⟨_, rfl⟩
                  obtain ⟨p2, hp2⟩ : ∃ o2, o2 = if ca = i + 1 then ol else ol + (i + 1) * 4 := ⟨_, rfl⟩
                  obtain ⟨d2, hd2'⟩ : ∃ d2, d2 = da - (i + 1) := ⟨_, rfl⟩
                  obtain ⟨c2, hc2'⟩ : ∃ d2, d2 = ca - (i + 1) := ⟨_, rfl⟩
                  obtain ⟨m2, hm2⟩ : ∃ d2, d2 = ma - (i + 1) := ⟨_, rfl⟩
                  obtain ⟨n2, hn2⟩ : ∃ d2, d2 = na - (i + 1) := ⟨_, rfl⟩
                  have HD1 : ∀ w', (Instr.sliceAt 24 (.slice (some ⟨gk, ok, none⟩) ma da) none (some (.int .i64 (i : Int))) none).run Tryd.prog w' = .ok (.slice (some ⟨gk, ok, none⟩) i da) w' := fun w' => run_head (s := 1) (by kernel_rfl) (fun _ => by kernel_rfl) (by omega) (by omega) w'
                  have HD2 : ∀ w', (Instr.sliceAt 24 (.slice (some ⟨gk, ok, none⟩) ma da) (some (.int .i64 ((i : Int) + 1))) none none).run Tryd.prog w' = .ok (.slice (some ⟨gk, o2, none⟩) m2 d2) w' := fun w' => by rw [ho2, hd2', hm2]; exact run_tail (s := 1) (by kernel_rfl) (fun _ => by kernel_rfl) (by omega) (by omega) (by omega) w'
                  have HD3 : ∀ w', (Instr.sliceAt 23 (.slice (some ⟨gl, ol, none⟩) na ca) none (some (.int .i64 (i : Int))) none).run Tryd.prog w' = .ok (.slice (some ⟨gl, ol, none⟩) i ca) w' := fun w' => run_head (s := 4) (by kernel_rfl) (fun _ => by kernel_rfl) (by omega) (by omega) w'
                  have HD4 : ∀ w', (Instr.sliceAt 23 (.slice (some ⟨gl, ol, none⟩) na ca) (some (.int .i64 ((i : Int) + 1))) none none).run Tryd.prog w' = .ok (.slice (some ⟨gl, p2, none⟩) n2 c2) w' := fun w' => by rw [hp2, hc2', hn2]; exact run_tail (s := 4) (by kernel_rfl) (fun _ => by kernel_rfl) (by omega) (by omega) (by omega) w'
                  have hwi : IntKind.i64.wrap ((i : Int) + 1) = (i : Int) + 1 := IntWalk.i64_in _ (by omega)
                  have NK1 := Lib.hid (fun (X : World) (hb : Below wB.heap.size wB X) => show 0 < i → ∃ ad, some (⟨gk, ok, none⟩ : Addr) = some ad ∧ ∀ (j : Nat) (u : Value), K1[j]? = some u → X.cell? (ad.add j) = some u from by rw [hK1]; exact news_keys (a := 0) (m := i) (by omega) HTX.out (fun _ => rfl) (below_tr BB.out hb))
                  have NK2 := Lib.hid (fun (X : World) (hb : Below wB.heap.size wB X) => show 0 < m2 → ∃ ad, some (⟨gk, o2, none⟩ : Addr) = some ad ∧ ∀ (j : Nat) (u : Value), K2[j]? = some u → X.cell? (ad.add j) = some u from by rw [hK2, hm2]; exact news_keys (by omega) HTX.out (fun h => by rw [ho2, if_neg (by omega)]; omega) (below_tr BB.out hb))
                  have NL1 := Lib.hid (fun (X : World) (hb : Below wB.heap.size wB X) => show 0 < i → ∃ ad, some (⟨gl, ol, none⟩ : Addr) = some ad ∧ ∀ (j : Nat) (u : Value), L1[j]? = some u → X.cell? (ad.add j) = some u from by rw [hL1]; exact news_vals (by omega) hgl.out HLC.out (fun _ => by omega) (below_tr BB.out hb))
                  have NL2 := Lib.hid (fun (X : World) (hb : Below wB.heap.size wB X) => show 0 < n2 → ∃ ad, some (⟨gl, p2, none⟩ : Addr) = some ad ∧ ∀ (j : Nat) (u : Value), L2[j]? = some u → X.cell? (ad.add j) = some u from by rw [hL2, hn2]; exact news_vals (by omega) hgl.out HLC.out (fun h => by rw [hp2, if_neg (by omega)]) (below_tr BB.out hb))
                  have K1L := Lib.hid (show K1.length = i * 1 by rw [hK1, List.length_map, List.length_take, List.length_drop]; omega)
                  have K2L := Lib.hid (show K2.length = m2 * 1 by rw [hK2, hm2, List.length_map, List.length_take, List.length_drop]; omega)
                  have L1L := Lib.hid (show L1.length = i * 4 by rw [hL1, cels_len])
                  have L2L := Lib.hid (show L2.length = n2 * 4 by rw [hL2, hn2, cels_len])
                  have K1O := Lib.hid (show ∀ u ∈ K1, u.oneCell' = true from fun u hu => by rw [hK1] at hu; obtain ⟨t, _, rfl⟩ := List.mem_map.1 hu; rfl)
                  have K2O := Lib.hid (show ∀ u ∈ K2, u.oneCell' = true from fun u hu => by rw [hK2] at hu; obtain ⟨t, _, rfl⟩ := List.mem_map.1 hu; rfl)
                  have L1O := Lib.hid (show ∀ u ∈ L1, u.oneCell' = true from by rw [hL1]; exact cels_one fun i hi j hj => HON.out _ (by omega) _ hj)
                  have L2O := Lib.hid (show ∀ u ∈ L2, u.oneCell' = true from by rw [hL2]; exact cels_one fun i hi j hj => HON.out _ (by omega) _ hj)
                  have e1 : 0 + i = i := by omega
                  have e2 : i + m2 = m1 := by have := HM1.out; omega
                  have e4 : i + n2 = n1 := by have := HN1.out; omega
                  have hm9 : m1 ≤ 1500 := by omega
                  have hn9 : n1 ≤ 1500 := by omega
                  have E1 := Lib.hid e1
                  have E2 := Lib.hid e2
                  have E4 := Lib.hid e4
                  have HK1 := Lib.hid hK1
                  have HK2 := Lib.hid (show K2 = ((ks.drop (i + 1)).map fun t => Value.string (txt t)) by rw [hK2, List.take_of_length_le (by rw [List.length_drop]; omega)])
                  have HL1 := Lib.hid hL1
                  have HL2 := Lib.hid (show L2 = cels f (i + 1) (l.length - (i + 1)) by rw [hL2, ll])
                  have SB := Lib.hid (fun (X : World) (hb : Below wB.heap.size wB X) => show X.cell? ⟨ga, 2, none⟩ = some (.slice (some ⟨gl, ol, none⟩) na ca) ∧ X.cell? ⟨ga, 3, none⟩ = some (.slice (some ⟨gk, ok, none⟩) ma da) from ⟨cell_old hb HLA.out a2, cell_old hb HLA.out a3⟩)
                  have HM2 := Lib.hid hm2
                  have HN2 := Lib.hid hn2
                  clear hK1 hK2 hL1 hL2 lk ll ho2 hp2 hd2' hc2' hm2 hn2 e1 e2 e4
                  have H := Lib.hid (MvS.start wB)
                  have HZ := Lib.hid (MvS.al0 wB)
                  go_upto_region 9 with fail
                  go_cut [8] from 30 to 128 (fun a wx => ∃ (gw kc lc : Nat) (kA lA : Option Addr), a = .pointer (some ⟨gw, 0, none⟩) ∧ Hid (MvR wB wx gw (.slice kA m1 kc) (.slice lA n1 lc) m1 n1 (K1 ++ K2) (L1 ++ L2)))
                  case first =>
                    as_aux_lemma =>
                      go_region_held_law (fun X => X.cell? ⟨ga, 2, none⟩ = some (.slice (some ⟨gl, ol, none⟩) na ca) ∧ X.cell? ⟨ga, 3, none⟩ = some (.slice (some ⟨gk, ok, none⟩) ma da))
                        (first | exact SB.out _ H.out.below | exact SB.out _ HZ.out.below | exact SB.out _ H.out.al.below | exact SB.out _ H.out.fin1.below | exact SB.out _ H.out.fin2.below)
                        (first
                          | (refine step_grow rfl (.const (.slice none 0 0)) (.tmp 76) 24 rfl wB.heap.size 9 i9 (.string ⟨#[]⟩) 1 16 Tryd.underlying24 hi9 y0 y1 y2 rfl (by decide) _ _ _ (by first | rfl | simp [Act.eval, Act.put]) HZ.out.ownK (some ⟨gk, ok, none⟩) i da (by first | rfl | simp [Act.eval, Act.put]) K1 K1L.out (NK1.out _ HZ.out.below) (fun e => by cases e) K1O.out i E1.out (by unfold maxLen; omega) (by omega) HZ.out.below.size ?_; intro A5 c5 w5 own5 hg5 hb5; have H := Lib.hid (HZ.out.k own5 hg5 hb5); clear own5 hg5 hb5; obtain ⟨⟨z0, z1, z2, z3⟩, t0, t1, t2, t3⟩ := vcells (H.out.ap _ rfl).1)
                          | (refine step_grow rfl (.const (.slice none 0 0)) (.tmp 76) 24 rfl wB.heap.size 9 i9 (.string ⟨#[]⟩) 1 16 Tryd.underlying24 hi9 y0 y1 y2 rfl (by decide) _ _ _ (by first | rfl | simp [Act.eval, Act.put]) H.out.ownK (some ⟨gk, ok, none⟩) i da (by first | rfl | simp [Act.eval, Act.put]) K1 K1L.out (NK1.out _ H.out.below) (fun e => by cases e) K1O.out i E1.out (by unfold maxLen; omega) (by omega) H.out.below.size ?_; intro A5 c5 w5 own5 hg5 hb5; have H := Lib.hid (H.out.k own5 hg5 hb5); clear own5 hg5 hb5; first | (obtain ⟨⟨z0, z1, z2, z3⟩, t0, t1, t2, t3⟩ := vcells (H.out.ap _ rfl).1) | skip)
                          | (refine step_grow rfl (.const (.slice none 0 0)) (.tmp 76) 24 rfl wB.heap.size 9 i9 (.string ⟨#[]⟩) 1 16 Tryd.underlying24 hi9 y0 y1 y2 rfl (by decide) _ _ _ (by first | rfl | simp [Act.eval, Act.put]) H.out.al.ownK (some ⟨gk, ok, none⟩) i da (by first | rfl | simp [Act.eval, Act.put]) K1 K1L.out (NK1.out _ H.out.al.below) (fun e => by cases e) K1O.out i E1.out (by unfold maxLen; omega) (by omega) H.out.al.below.size ?_; intro A5 c5 w5 own5 hg5 hb5; have H := Lib.hid (H.out.al.k own5 hg5 hb5); clear own5 hg5 hb5; obtain ⟨⟨z0, z1, z2, z3⟩, t0, t1, t2, t3⟩ := vcells (H.out.ap _ rfl).1)
                          | (refine step_grow rfl (.tmp 77) (.tmp 82) 24 rfl wB.heap.size 9 i9 (.string ⟨#[]⟩) 1 16 Tryd.underlying24 hi9 y0 y1 y2 rfl (by decide) _ _ _ (by first | rfl | simp [Act.eval, Act.put]) H.out.ownK (some ⟨gk, o2, none⟩) m2 d2 (by first | rfl | simp [Act.eval, Act.put]) K2 K2L.out (NK2.out _ H.out.below) (fun e => by cases e) K2O.out m1 E2.out (by unfold maxLen; omega) (by omega) H.out.below.size ?_; intro A5 c5 w5 own5 hg5 hb5; have H := Lib.hid (H.out.k own5 hg5 hb5); clear own5 hg5 hb5; first | (obtain ⟨⟨z0, z1, z2, z3⟩, t0, t1, t2, t3⟩ := vcells (H.out.ap _ rfl).1) | skip)
                          | (refine step_grow rfl (.tmp 77) (.tmp 82) 24 rfl wB.heap.size 9 i9 (.string ⟨#[]⟩) 1 16 Tryd.underlying24 hi9 y0 y1 y2 rfl (by decide) _ _ _ (by first | rfl | simp [Act.eval, Act.put]) H.out.al.ownK (some ⟨gk, o2, none⟩) m2 d2 (by first | rfl | simp [Act.eval, Act.put]) K2 K2L.out (NK2.out _ H.out.al.below) (fun e => by cases e) K2O.out m1 E2.out (by unfold maxLen; omega) (by omega) H.out.al.below.size ?_; intro A5 c5 w5 own5 hg5 hb5; have H := Lib.hid (H.out.al.k own5 hg5 hb5); clear own5 hg5 hb5; obtain ⟨⟨z0, z1, z2, z3⟩, t0, t1, t2, t3⟩ := vcells (H.out.ap _ rfl).1)
                          | (refine step_grow rfl (.const (.slice none 0 0)) (.tmp 87) 23 rfl wB.heap.size 26 i1 (.agg #[.int .u8 0, .string ⟨#[]⟩, .slice none 0 0, .slice none 0 0]) 4 72 Tryd.underlying23 hi1 hz0 hz1 hz2 rfl (by decide) _ _ _ (by first | rfl | simp [Act.eval, Act.put]) HZ.out.ownL (some ⟨gl, ol, none⟩) i ca (by first | rfl | simp [Act.eval, Act.put]) L1 L1L.out (NL1.out _ HZ.out.below) (fun e => by cases e) L1O.out i E1.out (by unfold maxLen; omega) (by omega) HZ.out.below.size ?_; intro A5 c5 w5 own5 hg5 hb5; have H := Lib.hid (HZ.out.l own5 hg5 hb5); clear own5 hg5 hb5; obtain ⟨⟨z0, z1, z2, z3⟩, t0, t1, t2, t3⟩ := vcells (H.out.ap _ rfl).1)
                          | (refine step_grow rfl (.const (.slice none 0 0)) (.tmp 87) 23 rfl wB.heap.size 26 i1 (.agg #[.int .u8 0, .string ⟨#[]⟩, .slice none 0 0, .slice none 0 0]) 4 72 Tryd.underlying23 hi1 hz0 hz1 hz2 rfl (by decide) _ _ _ (by first | rfl | simp [Act.eval, Act.put]) H.out.ownL (some ⟨gl, ol, none⟩) i ca (by first | rfl | simp [Act.eval, Act.put]) L1 L1L.out (NL1.out _ H.out.below) (fun e => by cases e) L1O.out i E1.out (by unfold maxLen; omega) (by omega) H.out.below.size ?_; intro A5 c5 w5 own5 hg5 hb5; have H := Lib.hid (H.out.l own5 hg5 hb5); clear own5 hg5 hb5; first | (obtain ⟨⟨z0, z1, z2, z3⟩, t0, t1, t2, t3⟩ := vcells (H.out.ap _ rfl).1) | skip)
                          | (refine step_grow rfl (.const (.slice none 0 0)) (.tmp 87) 23 rfl wB.heap.size 26 i1 (.agg #[.int .u8 0, .string ⟨#[]⟩, .slice none 0 0, .slice none 0 0]) 4 72 Tryd.underlying23 hi1 hz0 hz1 hz2 rfl (by decide) _ _ _ (by first | rfl | simp [Act.eval, Act.put]) H.out.al.ownL (some ⟨gl, ol, none⟩) i ca (by first | rfl | simp [Act.eval, Act.put]) L1 L1L.out (NL1.out _ H.out.al.below) (fun e => by cases e) L1O.out i E1.out (by unfold maxLen; omega) (by omega) H.out.al.below.size ?_; intro A5 c5 w5 own5 hg5 hb5; have H := Lib.hid (H.out.al.l own5 hg5 hb5); clear own5 hg5 hb5; obtain ⟨⟨z0, z1, z2, z3⟩, t0, t1, t2, t3⟩ := vcells (H.out.ap _ rfl).1)
                          | (refine step_grow rfl (.tmp 88) (.tmp 93) 23 rfl wB.heap.size 26 i1 (.agg #[.int .u8 0, .string ⟨#[]⟩, .slice none 0 0, .slice none 0 0]) 4 72 Tryd.underlying23 hi1 hz0 hz1 hz2 rfl (by decide) _ _ _ (by first | rfl | simp [Act.eval, Act.put]) H.out.ownL (some ⟨gl, p2, none⟩) n2 c2 (by first | rfl | simp [Act.eval, Act.put]) L2 L2L.out (NL2.out _ H.out.below) (fun e => by cases e) L2O.out n1 E4.out (by unfold maxLen; omega) (by omega) H.out.below.size ?_; intro A5 c5 w5 own5 hg5 hb5; have H := Lib.hid (H.out.l own5 hg5 hb5); clear own5 hg5 hb5; first | (obtain ⟨⟨z0, z1, z2, z3⟩, t0, t1, t2, t3⟩ := vcells (H.out.ap _ rfl).1) | skip)
                          | (refine step_grow rfl (.tmp 88) (.tmp 93) 23 rfl wB.heap.size 26 i1 (.agg #[.int .u8 0, .string ⟨#[]⟩, .slice none 0 0, .slice none 0 0]) 4 72 Tryd.underlying23 hi1 hz0 hz1 hz2 rfl (by decide) _ _ _ (by first | rfl | simp [Act.eval, Act.put]) H.out.al.ownL (some ⟨gl, p2, none⟩) n2 c2 (by first | rfl | simp [Act.eval, Act.put]) L2 L2L.out (NL2.out _ H.out.al.below) (fun e => by cases e) L2O.out n1 E4.out (by unfold maxLen; omega) (by omega) H.out.al.below.size ?_; intro A5 c5 w5 own5 hg5 hb5; have H := Lib.hid (H.out.al.l own5 hg5 hb5); clear own5 hg5 hb5; obtain ⟨⟨z0, z1, z2, z3⟩, t0, t1, t2, t3⟩ := vcells (H.out.ap _ rfl).1))
                      all_goals
                        try simp only [Act.put, List.getElem?_toArray, List.getElem?_cons_succ, List.getElem?_cons_zero, List.getElem_toArray, List.getElem_cons_succ, List.getElem_cons_zero, List.setIfInBounds_toArray, List.set_cons_zero, List.set_cons_succ]
                        try go_wp2_with fail
                        go_meet
                        first
                          | exact ⟨_, _, _, _, _, rfl, Lib.hid H.out.fin2⟩
                          | exact ⟨_, _, _, _, _, rfl, Lib.hid H.out.fin1⟩
                  case rest =>
                    obtain ⟨gw, kc, lc, kA, lA, rfl, HR⟩ := hcut
                    obtain ⟨wC, hwC⟩ : ∃ q, q = wc := ⟨_, rfl⟩
                    subst hwC
                    clear a2 a3 HD1 HD2 HD3 HD4 H HZ NK1 NK2 NL1 NL2 SB
                    have HCC := Lib.hid (below_tr HCB.out HR.out.below)
                    have BC := Lib.hid (below_tr HB2.out HCC.out)
                    have EK := Lib.hid (show m1 = ks.length - 1 by have := HM1.out; have := HMA.out; omega)
                    have EL := Lib.hid (show n1 = l.length - 1 by have := HN1.out; have := HNA.out; omega)
                    have EKL := Lib.hid (show K1 ++ K2 = (ks.take i ++ ks.drop (i + 1)).map fun t => Value.string (txt t) by rw [HK1.out, HK2.out, List.drop_zero, List.map_append])
                    have ELL := Lib.hid (show L1 ++ L2 = cels f 0 i ++ cels f (i + 1) (l.length - (i + 1)) by rw [HL1.out, HL2.out])
                    have VAL0 := Lib.hid (show Vm wC (.agg #[.int .u8 8, .string ⟨#[]⟩, .slice lA n1 lc, .slice kA m1 kc]) (.mk 8 [] (l.take i ++ l.drop (i + 1)) (ks.take i ++ ks.drop (i + 1))) from by
                      have h := HR.out
                      rw [EKL.out, ELL.out] at h
                      exact MvR.val0 (by rw [← EK.out, ← EL.out]; exact h) HKL.out (by rw [← HNA.out]; exact hin) (fun j y hy => (HVE.out j y hy).on BC.out))
                    have Xw := HR.out.bx
                    obtain ⟨q0, q1, q2, q3⟩ : wC.cell? ⟨gw, 0, none⟩ = some (.int .u8 8) ∧ wC.cell? ⟨gw, 1, none⟩ = some (.string ⟨#[]⟩) ∧ wC.cell? ⟨gw, 2, none⟩ = some (.slice lA n1 lc) ∧ wC.cell? ⟨gw, 3, none⟩ = some (.slice kA m1 kc) := ⟨Xw.c0, Xw.c1, Xw.c2, Xw.c3⟩
                    have HLW := Lib.hid Xw.lt
                    have a3 := (HXa.out.on HCC.out).c3
                    have k0 := cell_old BC.out hgk.out HKC.out
                    have HLA := Lib.hid (HXa.out.on HCC.out).lt
                    have HLK := Lib.hid (Nat.lt_of_lt_of_le hgk.out BC.out.size)
                    clear Xw
                    go_upto_region 10 with fail
                    go_cut [9, 10] from 30 to 128 (fun _ b wx => b = .bool false ∧ Hid (Below wC.heap.size wC wx))
                    case first =>
                      as_aux_lemma =>
                        have CG := Lib.hid (fun (X : World) (hb : Below wC.heap.size wC X) => get_out HL.out X (HL.out.up HT.out (below_tr BC.out hb)) (may_parts HMz.out).2.2.2.1 HSi.out (VAL0.out.on hb) (by have h1 := wt_part (t := []) (t' := []) (l := l) (ks := ks) (i := i) HKL.out (by rw [← HNA.out]; exact hin) rfl; have h2 := HWz.out; omega) HS.out)
                        have SS := Lib.hid (fun (X : World) (hb : Below wC.heap.size wC X) => show Below wC.heap.size wC X ∧ X.cell? ⟨gw, 0, none⟩ = some (.int .u8 8) ∧ X.cell? ⟨gw, 1, none⟩ = some (.string ⟨#[]⟩) ∧ X.cell? ⟨gw, 2, none⟩ = some (.slice lA n1 lc) ∧ X.cell? ⟨gw, 3, none⟩ = some (.slice kA m1 kc) ∧ X.cell? ⟨ga, 3, none⟩ = some (.slice (some ⟨gk, ok, none⟩) ma da) ∧ X.cell? ⟨gk, ok + i, none⟩ = some (.string S) from ⟨hb, cell_old hb HLW.out q0, cell_old hb HLW.out q1, cell_old hb HLW.out q2, cell_old hb HLW.out q3, cell_old hb HLA.out a3, cell_old hb HLK.out k0⟩)
                        have S0 := Lib.hid (show Below wC.heap.size wC wC.drew from (Below.refl _ _).drew)
                        have S1 := Lib.hid (fun (o : Obj) => show Below wC.heap.size wC (wC.alloc o).drew from ((Below.refl _ _).alloc (Nat.le_refl _) _).drew)
                        have S2 := Lib.hid (fun (X : World) (o : Obj) (h : Below wC.heap.size wC X) => show Below wC.heap.size wC (X.alloc o) from h.alloc h.size _)
                        have S4 := Lib.hid (fun (X : World) (a b c d : Value) (h : Below wC.heap.size wC X) => show Below wC.heap.size wC ((((X.setCell ⟨wC.heap.size, 0, none⟩ a).setCell ⟨wC.heap.size, 1, none⟩ b).setCell ⟨wC.heap.size, 2, none⟩ c).setCell ⟨wC.heap.size, 3, none⟩ d) from (((h.setCell (p := ⟨wC.heap.size, 0, none⟩) (Nat.le_refl _) _).setCell (p := ⟨wC.heap.size, 1, none⟩) (Nat.le_refl _) _).setCell (p := ⟨wC.heap.size, 2, none⟩) (Nat.le_refl _) _).setCell (p := ⟨wC.heap.size, 3, none⟩) (Nat.le_refl _) _)
                        go_region_held_law (fun X => Below wC.heap.size wC X ∧ X.cell? ⟨gw, 0, none⟩ = some (.int .u8 8) ∧ X.cell? ⟨gw, 1, none⟩ = some (.string ⟨#[]⟩) ∧ X.cell? ⟨gw, 2, none⟩ = some (.slice lA n1 lc) ∧ X.cell? ⟨gw, 3, none⟩ = some (.slice kA m1 kc) ∧ X.cell? ⟨ga, 3, none⟩ = some (.slice (some ⟨gk, ok, none⟩) ma da) ∧ X.cell? ⟨gk, ok + i, none⟩ = some (.string S))
                          (first | (with_reducible exact SS.out _ S0.out) | (with_reducible exact SS.out _ (S1.out _)) | (refine SS.out _ ?_; with_reducible assumption) | (refine SS.out _ (S2.out _ _ ?_); with_reducible assumption) | (refine SS.out _ (S4.out _ _ _ _ _ ?_); with_reducible assumption))
                          ((go_simp; go_at_call 16; refine (CG.out _ (And.left (by assumption))).mono ?_; rintro e w5 ⟨⟨vk, vt, vA, vB, vn, vc, vm, vd, rfl⟩, hb⟩; have hb5 := below_tr (show Below wC.heap.size wC _ from And.left (by assumption)) hb; first | (have HBE := Lib.hid (show Below (wC.alloc (vO (.int .u8 0) (.string ⟨#[]⟩) (.slice none 0 0) (.slice none 0 0))).drew.heap.size (wC.alloc (vO (.int .u8 0) (.string ⟨#[]⟩) (.slice none 0 0) (.slice none 0 0))).drew w5 from by with_reducible exact hb); obtain ⟨⟨z0, z1, z2, z3⟩, t0, t1, t2, t3⟩ := vcells (blk_up HBE.out (show (wC.alloc (vO (.int .u8 0) (.string ⟨#[]⟩) (.slice none 0 0) (.slice none 0 0))).drew.heap[wC.heap.size]? = some (vO (.int .u8 0) (.string ⟨#[]⟩) (.slice none 0 0) (.slice none 0 0)) from heap_alloc_new wC _)); clear hb) | clear hb))
                        all_goals
                          try simp only [Act.put, List.getElem?_toArray, List.getElem?_cons_succ, List.getElem?_cons_zero, List.getElem_toArray, List.getElem_cons_succ, List.getElem_cons_zero, List.setIfInBounds_toArray, List.set_cons_zero, List.set_cons_succ]
                          try go_wp2_with fail
                          go_meet
                          first
                            | exact ⟨rfl, Lib.hid (hb5.alloc hb5.size _)⟩
                            | exact ⟨rfl, Lib.hid ((((hb5.setCell (p := ⟨wC.heap.size, 0, none⟩) (Nat.le_refl _) _).setCell (p := ⟨wC.heap.size, 1, none⟩) (Nat.le_refl _) _).setCell (p := ⟨wC.heap.size, 2, none⟩) (Nat.le_refl _) _).setCell (p := ⟨wC.heap.size, 3, none⟩) (Nat.le_refl _) _)⟩
                    case rest =>
                      obtain ⟨rfl, HC10⟩ := hcut
                      obtain ⟨wD, hwD⟩ : ∃ q, q = wc := ⟨_, rfl⟩
                      subst hwD
                      have HRD := Lib.hid (HR.out.on HC10.out)
                      have HCD := Lib.hid (below_tr HCC.out HC10.out)
                      have BD := Lib.hid (below_tr HB2.out HCD.out)
                      clear q0 q1 q2 q3 a3 k0 HLW HLA HLK VAL0 HR
                      have Xw := HRD.out.bx
                      have q3 := Xw.c3
                      have HLW := Lib.hid Xw.lt
                      have a3 := (HXa.out.on HCD.out).c3
                      have k0 := cell_old BD.out hgk.out HKC.out
                      have HLA := Lib.hid (HXa.out.on HCD.out).lt
                      have HLK := Lib.hid (Nat.lt_of_lt_of_le hgk.out BD.out.size)
                      clear Xw
                      go_upto_region 11 with fail
                      go_cut [10] from 30 to 128 (fun a wx => a = .bool false ∧ ∃ (kd : Nat) (kB : Option Addr), Hid (MvR wB wx gw (.slice kB (m1 + 1) kd) (.slice lA n1 lc) (m1 + 1) n1 ((K1 ++ K2) ++ [.string S]) (L1 ++ L2)))
                      case first =>
                        as_aux_lemma =>
                          have SS := Lib.hid (fun (X : World) (hb : Below wD.heap.size wD X) => show X.cell? ⟨ga, 3, none⟩ = some (.slice (some ⟨gk, ok, none⟩) ma da) ∧ X.cell? ⟨gk, ok + i, none⟩ = some (.string S) from ⟨cell_old hb HLA.out a3, cell_old hb HLK.out k0⟩)
                          have S0 := Lib.hid (show Below wD.heap.size wD wD.drew from (Below.refl _ _).drew)
                          have S1 := Lib.hid (fun (o : Obj) => show Below wD.heap.size wD (wD.alloc o).drew from ((Below.refl _ _).alloc (Nat.le_refl _) _).drew)
                          have q3a : ∀ o, (wD.alloc o).cell? ⟨gw, 3, none⟩ = some (.slice kA m1 kc) := fun o => by rw [World.cell?_alloc_lt _ _ _ (by exact HLW.out)]; exact q3
                          have HRE := Lib.hid (fun (o : Obj) => HRD.out.on (S1.out o))
                          have SBM := Lib.hid (fun (w5 : World) (o : Obj) (hg : (wD.alloc o).drew.grownBy w5 (Value.slice kA m1 kc).ownBlock) => show w5.cell? ⟨ga, 3, none⟩ = some (.slice (some ⟨gk, ok, none⟩) ma da) ∧ w5.cell? ⟨gk, ok + i, none⟩ = some (.string S) from ⟨by
                            have lt := fun g e => ((HRE.out o).ownK.lt g e).1
                            have z : (wD.alloc o).drew.heap.size = wD.heap.size + 1 := alloc_size wD o
                            rw [hg.cell_far ⟨ga, 3, none⟩ (by rw [z]; have := HLA.out; show ga < wD.heap.size + 1; omega) (fun e => by have := lt ga e.symm; have h9 := (HXa.out.on HCB.out).lt; omega)]
                            exact (SS.out _ (S1.out o)).1, by
                            have lt := fun g e => ((HRE.out o).ownK.lt g e).1
                            have z : (wD.alloc o).drew.heap.size = wD.heap.size + 1 := alloc_size wD o
                            rw [hg.cell_far ⟨gk, ok + i, none⟩ (by rw [z]; have := HLK.out; show gk < wD.heap.size + 1; omega) (fun e => by have := lt gk e.symm; have h9 := Nat.lt_of_lt_of_le hgk.out BB.out.size; omega)]
                            exact (SS.out _ (S1.out o)).2⟩)
                          have SST := Lib.hid (fun (w5 : World) (v : Value) (h : w5.cell? ⟨ga, 3, none⟩ = some (.slice (some ⟨gk, ok, none⟩) ma da) ∧ w5.cell? ⟨gk, ok + i, none⟩ = some (.string S)) => show (w5.setCell ⟨gw, 3, none⟩ v).cell? ⟨ga, 3, none⟩ = some (.slice (some ⟨gk, ok, none⟩) ma da) ∧ (w5.setCell ⟨gw, 3, none⟩ v).cell? ⟨gk, ok + i, none⟩ = some (.string S) from
                            have lo := HRD.out.lo
                            ⟨(World.cell?_setCell_other _ _ _ _ (fun e => by injection e with e _ _; have h9 := (HXa.out.on HCB.out).lt; omega)).trans h.1, (World.cell?_setCell_other _ _ _ _ (fun e => by injection e with e _ _; have h9 := Nat.lt_of_lt_of_le hgk.out BB.out.size; omega)).trans h.2⟩)
                          go_region_law
                            ((refine step_grow rfl (.tmp 107) (.tmp 113) 24 rfl wB.heap.size 9 i9 (.string ⟨#[]⟩) 1 16 Tryd.underlying24 hi9 y0 y1 y2 rfl (by decide) (.slice kA m1 kc) m1 (K1 ++ K2) (by first | rfl | simp [Act.eval, Act.put]) (HRE.out _).ownK (some ⟨wD.heap.size, 0, none⟩) 1 1 (by first | rfl | simp [Act.eval, Act.put]) [.string S] rfl (fun _ => ⟨_, rfl, cell_one (show (wD.alloc (.cells #[.string S] 9)).cell? ⟨wD.heap.size, 0, none⟩ = _ from by rw [World.cell?_alloc_at _ _ _ _ rfl]; rfl)⟩) (fun e => by cases e) (fun u hu => by simp at hu; rw [hu]; rfl) (m1 + 1) rfl (by unfold maxLen; omega) (by omega) (HRE.out _).below.size ?_; intro kB kd w5 own5 hg5 hb5; have SM := SBM.out w5 _ hg5; obtain ⟨⟨z0, z1, z2, z3⟩, t0, t1, t2, t3⟩ := vcells ((HRE.out _).midK2 hg5); have H := Lib.hid ((HRE.out _).k2 own5 hg5 hb5); clear own5 hg5 hb5))
                          all_goals
                            try simp only [Act.put, List.getElem?_toArray, List.getElem?_cons_succ, List.getElem?_cons_zero, List.getElem_toArray, List.getElem_cons_succ, List.getElem_cons_zero, List.setIfInBounds_toArray, List.set_cons_zero, List.set_cons_succ]
                            try go_wp2_with fail
                            go_meet
                            exact ⟨rfl, _, _, H⟩
                      case rest =>
                        obtain ⟨rfl, kd, kB, HRF⟩ := hcut
                        obtain ⟨wE, hwE⟩ : ∃ q, q = wc := ⟨_, rfl⟩
                        subst hwE
                        clear q3 a3 k0 HLW HLA HLK HRD
                        have HCF := Lib.hid (below_tr HCB.out HRF.out.below)
                        have BF := Lib.hid (below_tr HB2.out HCF.out)
                        have BAF := Lib.hid (below_tr HC7.out HRF.out.below)
                        obtain ⟨q2, hq2⟩ : ∃ q : wE.cell? ⟨gw, 2, none⟩ = some (.slice lA n1 lc), True := ⟨HRF.out.bx.c2, trivial⟩
                        have Xv := HG.out.bx.on BAF.out
                        have v0 := Xv.c0
                        have v1 := Xv.c1
                        have v2 := Xv.c2
                        have v3 := Xv.c3
                        clear Xv hq2
                        go_upto_region 12 with fail
                        go_cut [10] from 30 to 128 (fun a wx => a = .bool false ∧ ∃ (ld : Nat) (lB : Option Addr), Hid (MvR wB wx gw (.slice kB (m1 + 1) kd) (.slice lB (n1 + 1) ld) (m1 + 1) (n1 + 1) ((K1 ++ K2) ++ [.string S]) ((L1 ++ L2) ++ [.int .u8 uk, .string ut, .slice uA un uc, .slice uB um ud])))
                        case first =>
                          as_aux_lemma =>
                            go_wp2_with (at_builtin; refine wpAppV _ rfl (.tmp 117) (.tmp 119) 23 rfl wB.heap.size 26 i1 (.agg #[.int .u8 0, .string ⟨#[]⟩, .slice none 0 0, .slice none 0 0]) 4 72 Tryd.underlying23 hi1 hz0 hz1 hz2 rfl (by decide) (.slice lA n1 lc) n1 (L1 ++ L2) rfl (HRF.out.ownL.alloc _) ⟨wE.heap.size, 0, none⟩ 1 1 [.int .u8 uk, .string ut, .slice uA un uc, .slice uB um ud] rfl rfl (four_cells _ _ _ _ _ _) (fun u hu => by simp at hu; rcases hu with rfl | rfl | rfl | rfl <;> rfl) (by unfold maxLen; omega) (by omega) ((HRF.out.below.alloc HRF.out.below.size _).size) ?_; intro lv4 w5 own5 hg5 hb5; obtain ⟨lB, ld, rfl, _⟩ := own_shape own5; obtain ⟨⟨z0, z1, z2, z3⟩, t0, t1, t2, t3⟩ := vcells (HRF.out.midL hg5); have H := Lib.hid (HRF.out.l own5 hg5 hb5); clear own5 hg5 hb5)
                            go_meet
                            exact ⟨rfl, _, _, H⟩
                        case rest =>
                          obtain ⟨rfl, ld, lB, HRH⟩ := hcut
                          obtain ⟨wG, hwG⟩ : ∃ q, q = wc := ⟨_, rfl⟩
                          subst hwG
                          clear q2 v0 v1 v2 v3
                          have HCH := Lib.hid (below_tr HCB.out HRH.out.below)
                          have BH := Lib.hid (below_tr HB2.out HCH.out)
                          have BAH := Lib.hid (below_tr HC7.out HRH.out.below)
                          have VAL := Lib.hid (show Vm wG (.agg #[.int .u8 8, .string ⟨#[]⟩, .slice lB (n1 + 1) ld, .slice kB (m1 + 1) kd]) (.mk 8 [] (mvE l i z) (mvE ks i s)) from by
                            have h := HRH.out
                            rw [EKL.out, ELL.out] at h
                            exact MvR.val (by rw [← EK.out, ← EL.out, ← HS.out]; exact h) HKL.out HSi.out HZi.out (fun j y hy => (HVE.out j y hy).on BH.out) (HG.out.vm.on BAH.out))
                          have MV := Lib.hid (mv_ok HMz.out HSi.out HZi.out)
                          have CSm := Lib.hid (fun (X : World) (hb : Below wG.heap.size wG X) => same_mv HL.out X (HL.out.up HT.out (below_tr BH.out hb)) (VAL.out.on hb) (HVz.out.on (below_tr BH.out hb)) (by rw [MV.out.2.2]; have := HWz.out; omega) (by have := HWz.out; omega) MV.out.1 HMz.out MV.out.2.1)
                          have Xw := HRH.out.bx
                          obtain ⟨q0, q1, q2, q3⟩ : wG.cell? ⟨gw, 0, none⟩ = some (.int .u8 8) ∧ wG.cell? ⟨gw, 1, none⟩ = some (.string ⟨#[]⟩) ∧ wG.cell? ⟨gw, 2, none⟩ = some (.slice lB (n1 + 1) ld) ∧ wG.cell? ⟨gw, 3, none⟩ = some (.slice kB (m1 + 1) kd) := ⟨Xw.c0, Xw.c1, Xw.c2, Xw.c3⟩
                          have Xa := HXa.out.on HCH.out
                          have a0 := Xa.c0
                          have a1 := Xa.c1
                          have a2 := Xa.c2
                          have a3 := Xa.c3
                          clear Xa Xw
                          go_wp2_with fail
                          refine (CSm.out _ (Below.refl _ _)).mono ?_
                          rintro e w14 ⟨he, hb⟩
                          obtain rfl : e = .returned (.bool true) := he
                          have HCN := Lib.hid (below_tr HCH.out hb)
                          clear hb a0 a1 a2 a3 q0 q1 q2 q3
                          go_wp2_with fail
                          go_roundw
                          case rel => exact ⟨i + 1, by omega, by go_num, HCN⟩
                          case measure => simp [intOf]; omega
            · obtain rfl : ma = i := by omega
              obtain ⟨dx, hdx⟩ : ∃ d, d = dp x := ⟨_, rfl⟩
              obtain ⟨dy, hdy⟩ : ∃ d, d = dp y := ⟨_, rfl⟩
              have CDa := Lib.hid (fun (X : World) (hb : Below w.heap.size w X) => by have := HL.out.deep X (HL.out.up HT.out hb) (HVa.out.on hb) (by have := HWa.out; omega); rw [HMx.out, ← hdx] at this; exact this)
              have CDb := Lib.hid (fun (X : World) (hb : Below w.heap.size w X) => by have := HL.out.deep X (HL.out.up HT.out hb) (HVb.out.on hb) (by have := HWb.out; omega); rw [HMy.out, ← hdy] at this; exact this)
              have HDx := Lib.hid hdx
              have HDy := Lib.hid hdy
              clear hdx hdy
              go_wp2_with fail
              refine (CDa.out _ (below_tr HB2.out HC.out)).mono ?_
              rintro e w20 ⟨he, hb⟩
              have he : e = .returned (.int .i64 (dx : Int)) := he
              subst he
              have HC := Lib.hid (below_tr HC.out hb)
              clear hb a0 a1 a2 a3 b0 b1 b2 b3
              have Xa := HXa.out.on HC.out
              have a0 := Xa.c0
              have a1 := Xa.c1
              have a2 := Xa.c2
              have a3 := Xa.c3
              clear Xa
              have Xb := HXb.out.on HC.out
              have b0 := Xb.c0
              have b1 := Xb.c1
              have b2 := Xb.c2
              have b3 := Xb.c3
              clear Xb
              by_cases hdx : (250 : Int) < (dx : Int)
              · skip
                go_wp2_with fail
                refine (CL.out _ (below_tr HB2.out HC.out)).mono ?_
                rintro e wl ⟨rfl, hbl⟩
                have HF := Lib.hid (below_tr (below_tr HB2.out HC.out) hbl)
                clear hbl
                go_wp2_with fail
                go_ret
                exact ⟨rfl, HF.out⟩
              go_wp2_with fail
              refine (CDb.out _ (below_tr HB2.out HC.out)).mono ?_
              rintro e w21 ⟨he, hb⟩
              have he : e = .returned (.int .i64 (dy : Int)) := he
              subst he
              have HC := Lib.hid (below_tr HC.out hb)
              clear hb a0 a1 a2 a3 b0 b1 b2 b3
              have Xa := HXa.out.on HC.out
              have a0 := Xa.c0
              have a1 := Xa.c1
              have a2 := Xa.c2
              have a3 := Xa.c3
              clear Xa
              have Xb := HXb.out.on HC.out
              have b0 := Xb.c0
              have b1 := Xb.c1
              have b2 := Xb.c2
              have b3 := Xb.c3
              clear Xb
              by_cases hdy : (250 : Int) < (dy : Int)
              · skip
                go_wp2_with fail
                refine (CL.out _ (below_tr HB2.out HC.out)).mono ?_
                rintro e wl ⟨rfl, hbl⟩
                have HF := Lib.hid (below_tr (below_tr HB2.out HC.out) hbl)
                clear hbl
                go_wp2_with fail
                go_ret
                exact ⟨rfl, HF.out⟩
              have hdd : dx ≤ 250 ∧ dy ≤ 250 := by omega
              go_upto_region 18 with fail
              obtain ⟨Px, hPx⟩ : ∃ W, W = w21.alloc (.cells #[.int .u8 ka, .string Ta, .slice Aa na ca, .slice Ba ma da, .int .u8 kb, .string Tb, .slice Ab nb cb, .slice Bb mb db] 26) := ⟨_, rfl⟩
              obtain ⟨Lx, hLx⟩ : ∃ W, W = Px.alloc (vO (.int .u8 7) (.string ⟨#[]⟩) (.slice (some ⟨w21.heap.size, 0, none⟩) 2 2) (.slice none 0 0)) := ⟨_, rfl⟩
              rw [← hPx, ← hLx]
              have hzx : Px.heap.size = w21.heap.size + 1 := by rw [hPx]; show (w21.heap.push _).size = _; rw [Array.size_push]
              have b1x : Below w21.heap.size w21 Px := by rw [hPx]; exact below_new ..
              have b2x : Below Px.heap.size Px Lx := by rw [hLx]; exact below_new ..
              have HXx := Lib.hid (show Bx Lx (w21.heap.size + 1) (.int .u8 7) (.string ⟨#[]⟩) (.slice (some ⟨w21.heap.size, 0, none⟩) 2 2) (.slice none 0 0) from by rw [← hzx, hLx]; exact Bx.new ..)
              have HPx := Lib.hid (show Lx.heap[w21.heap.size]? = some (.cells #[.int .u8 ka, .string Ta, .slice Aa na ca, .slice Ba ma da, .int .u8 kb, .string Tb, .slice Ab nb cb, .slice Bb mb db] 26) from by
                rw [b2x.block _ (by omega), hPx]; exact heap_alloc_new ..)
              have HBB := Lib.hid (below_tr b1x b2x)
              have HC := Lib.hid (below_tr HC.out HBB.out)
              have HVx := Lib.hid (pair_vk HPx.out (HVa.out.on (below_tr HB2.out HC.out)) (HVb.out.on (below_tr HB2.out HC.out)))
              obtain ⟨qx, hqx⟩ : ∃ q, q = w21.heap.size := ⟨_, rfl⟩
              rw [← hqx] at HXx HVx ⊢
              clear hPx hLx hzx b1x b2x hqx HPx a0 a1 a2 a3 b0 b1 b2 b3
              have Xa := HXa.out.on HC.out
              have a0 := Xa.c0
              have a1 := Xa.c1
              have a2 := Xa.c2
              have a3 := Xa.c3
              clear Xa
              have Xb := HXb.out.on HC.out
              have b0 := Xb.c0
              have b1 := Xb.c1
              have b2 := Xb.c2
              have b3 := Xb.c3
              clear Xb
              go_upto_region 19 with fail
              obtain ⟨Py, hPy⟩ : ∃ W, W = Lx.alloc (.cells #[.int .u8 kb, .string Tb, .slice Ab nb cb, .slice Bb mb db, .int .u8 ka, .string Ta, .slice Aa na ca, .slice Ba ma da] 26) := ⟨_, rfl⟩
              obtain ⟨Ly, hLy⟩ : ∃ W, W = Py.alloc (vO (.int .u8 7) (.string ⟨#[]⟩) (.slice (some ⟨Lx.heap.size, 0, none⟩) 2 2) (.slice none 0 0)) := ⟨_, rfl⟩
              rw [← hPy, ← hLy]
              have hzy : Py.heap.size = Lx.heap.size + 1 := by rw [hPy]; show (Lx.heap.push _).size = _; rw [Array.size_push]
              have b1y : Below Lx.heap.size Lx Py := by rw [hPy]; exact below_new ..
              have b2y : Below Py.heap.size Py Ly := by rw [hLy]; exact below_new ..
              have HXy := Lib.hid (show Bx Ly (Lx.heap.size + 1) (.int .u8 7) (.string ⟨#[]⟩) (.slice (some ⟨Lx.heap.size, 0, none⟩) 2 2) (.slice none 0 0) from by rw [← hzy, hLy]; exact Bx.new ..)
              have HPy := Lib.hid (show Ly.heap[Lx.heap.size]? = some (.cells #[.int .u8 kb, .string Tb, .slice Ab nb cb, .slice Bb mb db, .int .u8 ka, .string Ta, .slice Aa na ca, .slice Ba ma da] 26) from by
                rw [b2y.block _ (by omega), hPy]; exact heap_alloc_new ..)
              have HBB := Lib.hid (below_tr b1y b2y)
              have HC := Lib.hid (below_tr HC.out HBB.out)
              have HVy := Lib.hid (pair_vk HPy.out (HVb.out.on (below_tr HB2.out HC.out)) (HVa.out.on (below_tr HB2.out HC.out)))
              obtain ⟨qy, hqy⟩ : ∃ q, q = Lx.heap.size := ⟨_, rfl⟩
              rw [← hqy] at HXy HVy ⊢
              clear hPy hLy hzy b1y b2y hqy HPy a0 a1 a2 a3 b0 b1 b2 b3
              have Xa := HXa.out.on HC.out
              have a0 := Xa.c0
              have a1 := Xa.c1
              have a2 := Xa.c2
              have a3 := Xa.c3
              clear Xa
              have Xb := HXb.out.on HC.out
              have b0 := Xb.c0
              have b1 := Xb.c1
              have b2 := Xb.c2
              have b3 := Xb.c3
              clear Xb
              have HXx := Lib.hid (HXx.out.on HBB.out)
              have HVx := Lib.hid (HVx.out.on HBB.out)
              have HE := Lib.hid (below_tr HB2.out HC.out)
              have Q1 := Lib.hid (show dp x ≤ 250 from by have := HDx.out; omega)
              have Q2 := Lib.hid (show dp y ≤ 250 from by have := HDy.out; omega)
              obtain ⟨o, ho⟩ : ∃ o, o = oI (cmpV (can x) (can y)) := ⟨_, rfl⟩
              obtain ⟨zA, hzA⟩ : ∃ i : Int, i = ((sz x : Nat) : Int) := ⟨_, rfl⟩
              obtain ⟨zB, hzB⟩ : ∃ i : Int, i = ((sz y : Nat) : Int) := ⟨_, rfl⟩
              obtain ⟨zS, hzS⟩ : ∃ i : Int, i = ((sz x + sz y + 1 : Nat) : Int) := ⟨_, rfl⟩
              obtain ⟨zT, hzT⟩ : ∃ i : Int, i = ((sz x + sz y : Nat) : Int) := ⟨_, rfl⟩
              have zz : sz x + sz y ≤ 4000 := by have := HWa.out; have := HWb.out; have := sz_le x; have := sz_le y; omega
              have Z1 : IntKind.i64.wrap (zA + zB) = zT := by rw [IntWalk.i64_in _ (by omega)]; omega
              have Z2 : IntKind.i64.wrap (zT + 1) = zS := by rw [IntWalk.i64_in _ (by omega)]; omega
              have CXY := Lib.hid (fun (X : World) (hb : Below Ly.heap.size Ly X) => cmp_two HL.out X (HL.out.up HT.out (below_tr HE.out hb)) (HVx.out.on hb) (HVy.out.on hb) HWa.out HWb.out HMx.out HMy.out Q1.out Q2.out ho)
              have CAB := Lib.hid (fun (X : World) (hb : Below Ly.heap.size Ly X) => cmp_in HL.out X (HL.out.up HT.out (below_tr HE.out hb)) (HVa.out.on (below_tr HE.out hb)) (HVb.out.on (below_tr HE.out hb)) (by have := HWa.out; omega) (by have := HWb.out; omega) HMx.out HMy.out ho)
              have CZX := Lib.hid (fun (X : World) (hb : Below Ly.heap.size Ly X) => size_two HL.out X (HL.out.up HT.out (below_tr HE.out hb)) (HVx.out.on hb) HWa.out HWb.out HMx.out HMy.out Q1.out Q2.out hzS)
              have CZA := Lib.hid (fun (X : World) (hb : Below Ly.heap.size Ly X) => size_in HL.out X (HL.out.up HT.out (below_tr HE.out hb)) (HVa.out.on (below_tr HE.out hb)) (by have := HWa.out; omega) HMx.out hzA)
              have CZB := Lib.hid (fun (X : World) (hb : Below Ly.heap.size Ly X) => size_in HL.out X (HL.out.up HT.out (below_tr HE.out hb)) (HVb.out.on (below_tr HE.out hb)) (by have := HWb.out; omega) HMy.out hzB)
              have CLL := Lib.hid (fun (X : World) (hb : Below Ly.heap.size Ly X) => CL.out X (below_tr HE.out hb))
              have xx := HXx.out
              have x0 := xx.c0
              have x1 := xx.c1
              have x2 := xx.c2
              have x3 := xx.c3
              have yy := HXy.out
              have y0 := yy.c0
              have y1 := yy.c1
              have y2 := yy.c2
              have y3 := yy.c3
              clear xx yy HXx HXy HXa HXb CDa CDb ho hzA hzB hzS hzT zz
              have Ka0 := fun s : Kept Ly => s.cell a0
              have Ka1 := fun s : Kept Ly => s.cell a1
              have Ka2 := fun s : Kept Ly => s.cell a2
              have Ka3 := fun s : Kept Ly => s.cell a3
              have Kb0 := fun s : Kept Ly => s.cell b0
              have Kb1 := fun s : Kept Ly => s.cell b1
              have Kb2 := fun s : Kept Ly => s.cell b2
              have Kb3 := fun s : Kept Ly => s.cell b3
              have Kx0 := fun s : Kept Ly => s.cell x0
              have Kx1 := fun s : Kept Ly => s.cell x1
              have Kx2 := fun s : Kept Ly => s.cell x2
              have Kx3 := fun s : Kept Ly => s.cell x3
              have Ky0 := fun s : Kept Ly => s.cell y0
              have Ky1 := fun s : Kept Ly => s.cell y1
              have Ky2 := fun s : Kept Ly => s.cell y2
              have Ky3 := fun s : Kept Ly => s.cell y3
              clear a0 a1 a2 a3 b0 b1 b2 b3 x0 x1 x2 x3 y0 y1 y2 y3
              refine reg_lit (C := fun wx => ∃ s : Kept Ly, wx = s.wx) (by kernel_rfl) (by kernel_rfl) ⟨⟨_, (Below.refl _ _).drew⟩, rfl⟩ ?_
              iterate 2 (go_big_quiet_step (fail))
              go_big_quiet_want
              go_big_quiet_op
              refine ⟨.int .i64 o, fun s => (CXY.out s.wx s.held).mono ?_, ?_⟩
              · rintro e w3 ⟨he, hb⟩
                obtain rfl : e = .returned (.int .i64 o) := he
                exact Kept.out hb
              go_big_quiet_on
              iterate 2 (go_big_quiet_step (fail))
              go_big_quiet_want
              go_big_quiet_op
              refine ⟨.int .i64 o, fun s => (CAB.out s.wx s.held).mono ?_, ?_⟩
              · rintro e w3 ⟨he, hb⟩
                obtain rfl : e = .returned (.int .i64 o) := he
                exact Kept.out hb
              go_big_quiet_on
              iterate 3 (go_big_quiet_step (fail))
              go_big_quiet_want
              go_big_quiet_op
              refine ⟨.int .i64 zS, fun s => (CZX.out s.wx s.held).mono ?_, ?_⟩
              · rintro e w3 ⟨he, hb⟩
                obtain rfl : e = .returned (.int .i64 zS) := he
                exact Kept.out hb
              go_big_quiet_on
              iterate 1 (go_big_quiet_step (fail))
              go_big_quiet_want
              go_big_quiet_op
              refine ⟨.int .i64 zA, fun s => (CZA.out s.wx s.held).mono ?_, ?_⟩
              · rintro e w3 ⟨he, hb⟩
                obtain rfl : e = .returned (.int .i64 zA) := he
                exact Kept.out hb
              go_big_quiet_on
              iterate 1 (go_big_quiet_step (fail))
              go_big_quiet_want
              go_big_quiet_op
              refine ⟨.int .i64 zB, fun s => (CZB.out s.wx s.held).mono ?_, ?_⟩
              · rintro e w3 ⟨he, hb⟩
                obtain rfl : e = .returned (.int .i64 zB) := he
                exact Kept.out hb
              go_big_quiet_on
              iterate 5 (go_big_quiet_step (fail))
              go_big_quiet_want
              go_big_quiet_op
              refine ⟨.bool true, fun s => (CLL.out s.wx s.held).mono ?_, ?_⟩
              · rintro e w3 ⟨he, hb⟩
                obtain rfl : e = .returned (.bool true) := he
                exact Kept.out hb
              go_big_quiet_on
              iterate 2 (go_big_quiet_step (fail))
              refine wpQuiet_nil ?_
              rintro w9 ⟨⟨wx, ox0⟩, e⟩
              have HC9 := Lib.hid (show Below Ly.heap.size Ly w9 from by rw [e]; exact ox0)
              clear e ox0 Ka0 Ka1 Ka2 Ka3 Kb0 Kb1 Kb2 Kb3 Kx0 Kx1 Kx2 Kx3 Ky0 Ky1 Ky2 Ky3
              go_wp2_with fail
              go_ret
              exact ⟨rfl, below_tr HE.out HC9.out⟩
end Va
end Go.Proofs.YtnnlgodgaolkkaaDoor
