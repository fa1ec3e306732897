/- The reader's lists of nodes grow; a value hung into a list. -/
import Derived.Test.YtbeefjhcbphiaaaGreatDoorHt
import Derived.Test.YtbeefjhcbphiaaaGreatDoorHv
namespace Go.Proofs.YtbeefjhcbphiaaaGreatDoor
open Go.RowKit
namespace Tv
open Ty (WR1 KR Ky Bs blK endP endP_on endP_no endP_far)

theorem hang_len {s : St} {t : Nat} {w : Bs} {sp : Nat × Nat} : (s.hang t w sp).X.length = s.X.length := List.length_modify ..
theorem close_len {s : St} {n : Nat} : (s.close n).X.length = s.X.length := List.length_modify ..
theorem sub_len {s : St} {n : Nat} : (s.addSub n).X.length = s.X.length := List.length_modify ..
theorem push_len {s : St} {x : Nd} {e : Nat} : (s.push x e).X.length = s.X.length + 1 := by simp [St.push]
theorem lead_len : ∀ (k : Ky) (t ar : Nat) (s s' : St), lead k t ar s = .ok s' → s.X.length ≤ s'.X.length
  | [], _, _, _, _, h => by cases h
  | [(w, sp)], t, ar, s, s', h => by
    have h : (match lk s.m (t, w) with | some _ => Rs.bad 5 sp.1 | none => .ok (s.hang t w sp)) = .ok s' := h
    split at h
    · cases h
    · injection h with h; rw [← h, hang_len]; exact Nat.le_refl _
  | (w, sp) :: y :: k, t, ar, s, s', h => by
    rw [lead] at h
    split at h
    · split at h
      · cases h
      · have := lead_len (y :: k) _ _ _ _ h
        have e : (s.hang t w sp).open_.X.length = s.X.length + 1 := by simp [St.open_, hang_len]
        omega
    · split at h
      · cases h
      · split at h
        · cases h
        · exact lead_len (y :: k) _ _ _ _ h
theorem vlen (E : Env) : ∀ f, (∀ s ar s', val E f s ar = .ok s' → s.X.length ≤ s'.X.length) ∧ (∀ n s ar s', items E f n s ar = .ok s' → s.X.length ≤ s'.X.length) ∧ (∀ n s ar s', pairs E f n s ar = .ok s' → s.X.length ≤ s'.X.length)
  | 0 => ⟨fun s ar s' h => by simp [val] at h, fun n s ar s' h => by simp [items] at h, fun n s ar s' h => by simp [pairs] at h⟩
  | f + 1 => by
    obtain ⟨iv, ii, ip⟩ := vlen E f
    refine ⟨fun s ar s' h => ?_, fun n s ar s' h => ?_, fun n s ar s' h => ?_⟩
    · rw [val] at h
      split at h
      · unfold quo at h
        split at h
        · cases h
        · injection h with h; rw [← h, push_len]; omega
      · split at h
        · split at h
          · cases h
          · split at h
            · cases h
            · have := ii _ _ _ _ h; rw [push_len] at this; omega
        · split at h
          · split at h
            · cases h
            · split at h
              · injection h with h; rw [← h, close_len, push_len]; omega
              · have := ip _ _ _ _ h; rw [push_len] at this; omega
          · unfold bare at h
            split at h
            · injection h with h; rw [← h, push_len]; omega
            · cases h
    · rw [items] at h
      split at h
      · injection h with h; rw [← h, close_len]; exact Nat.le_refl _
      · split at h
        · cases h
        · cases h
        · rename_i s1 hv
          have h1 := iv _ _ _ hv
          rw [sub_len] at h1
          split at h
          · cases h
          · split at h
            · split at h
              · cases h
              · have := ii _ _ _ _ h; exact Nat.le_trans h1 this
            · split at h
              · injection h with h; rw [← h, close_len]; exact h1
              · cases h
    · rw [pairs] at h
      split at h
      · cases h
      · cases h
      · split at h
        · cases h
        · cases h
        · rename_i s1 hl
          have h1 := lead_len _ _ _ _ _ hl
          split at h
          · split at h
            · cases h
            · cases h
            · rename_i s2 hv
              have h2 := iv _ _ _ hv
              have h3 : s.X.length ≤ s2.X.length := Nat.le_trans h1 h2
              split at h
              · have := ip _ _ _ _ h; exact Nat.le_trans h3 this
              · split at h
                · injection h with h; rw [← h, close_len]; exact h3
                · cases h
          · cases h
def atOf (P : Nat) (w : World) : Nat := match w.cell? ⟨P, 3, none⟩ with | some (.int _ z) => z.toNat | _ => 0
section
variable {G : List (Nat × Obj)} {W w w' : World} {B P M : Nat} {S : ByteArray} {s : St} {tv : Value} {lab : Nat → Own} {X : List Nx} {p b fc fa : Nat} {E : Env} {x : Nx}
theorem VP.atOf (h : VP G W w B P M S s tv fc fa lab X p b) : Tv.atOf P w = s.a := by unfold Tv.atOf; rw [h.cells.2.2.2.1]; simp
theorem VOut.less {G' : List (Nat × Obj)} {n a0 : Nat} {r : Rs} {e : Ending} (h : VOut G' W B P M S n a0 r e w) (hs : ∀ q ∈ G, q ∈ G') : VOut G W B P M S n a0 r e w := by
  cases r with
  | ok s' =>
    obtain ⟨h1, ⟨tv, lab, X, h2⟩, h3⟩ := h
    exact ⟨h1, ⟨tv, lab, X, h2.less hs⟩, h3⟩
  | bad c a => exact ⟨h.1, h.2.less hs⟩
  | out => exact h
end
end Tv
end Go.Proofs.YtbeefjhcbphiaaaGreatDoor
/- The reader over a list. -/
namespace Go.Proofs.YtbeefjhcbphiaaaGreatDoor
open Go.RowKit
namespace Tv
open Ty (WR1 KR Ky Bs blK endP endP_on endP_no endP_far)

/-- What a list tells. -/
def listR (E : Env) (f : Nat) (s : St) (ar : Nat) : Rs := if 256 ≤ ar then .bad 4 s.a else match gap E.l (s.a + 1) with
  | .bad a => .bad 3 a
  | .ok e => items E f s.X.length (s.push (Nd.leaf 7 [] (s.a, ((s.a + 1 : Nat) : Int))) e) ar
section
variable {G : List (Nat × Obj)} {W w w' : World} {B P M : Nat} {S : ByteArray} {s : St} {tv : Value} {lab : Nat → Own} {X : List Nx} {p b : Nat} {E : Env}
set_option maxHeartbeats 64000000 in
set_option maxRecDepth 100000 in
theorem list_any {f ar : Nat} (HVC : ∀ f', f' ≤ f → ValC W B P M S E f') (H : EnvC W B E S) (h : VP G W w B P M S s tv 0 0 lab X p b) (hp : p ≤ 1) (hb : b ≤ s.a) (h91 : bt E.l s.a = 91) (hf : 2 * (E.l.length - s.a) ≤ f) :
    Calls Tryz.prog 75 #[.pointer (some ⟨P, 0, none⟩), .int .i64 (ar : Nat)] w (VOut G W B P M S E.l.length s.a (listR E f s ar)) := by
  obtain ⟨i0, hi, hz0, hz1, hz2⟩ := info_parts (show (Tryz.prog.info? 3).map (fun i => (i.zero, i.size, i.bytes)) = some (some (.int .i64 0), 1, 8) by kernel_rfl)
  have ha1 : s.a + 1 ≤ E.l.length := bt_in h91 (by decide)
  have hl5 := H.hl
  by_cases har : 256 ≤ ar
  · have HB := Lib.hid (begin_deep (k := 7) (ar := (ar : Nat)) h (by omega))
    have HR := Lib.hid (show listR E f s ar = .bad 4 s.a from if_pos har)
    clear h HVC H hb h91 hf ha1 hl5 har
    go_enter Tryz.func75, Tryz.ntmps75
    go_wp2_with fail
    refine HB.out.mono ?_
    rintro e w2 ⟨rfl, V2⟩
    go_wp2_with fail
    go_ret
    rw [HR.out]
    exact ⟨rfl, V2⟩
  have HB := Lib.hid (begin_ok (kd := 7) (k := 7) (ar := (ar : Nat)) h hp (by omega) rfl (by omega) (by omega))
  obtain ⟨n, hn⟩ : ∃ n, n = s.X.length := ⟨_, rfl⟩
  have hR0 : listR E f s ar = match gap E.l (s.a + 1) with | .bad a => .bad 3 a | .ok e => items E f n (s.push (Nd.leaf 7 [] (s.a, ((s.a + 1 : Nat) : Int))) e) ar := by rw [hn]; exact if_neg har
  rw [← hn] at HB
  obtain ⟨R, hR⟩ : ∃ R, R = listR E f s ar := ⟨_, rfl⟩
  rw [← hR] at hR0 ⊢
  have HR0 := Lib.hid hR0
  have HE := Lib.hid H
  have HVC' := Lib.hid HVC
  have HA := Lib.hid (And.intro ha1 (And.intro hb hf))
  have HN := Lib.hid hn
  have har2 : ar < 256 := by omega
  have hn6 : n ≤ 100000 := by have := h.ok.len; omega
  clear h HVC H hb h91 hf hR0 hR hn har ha1 hl5
  go_enter Tryz.func75, Tryz.ntmps75
  go_wp2_with fail
  refine HB.out.mono ?_
  rintro e w2 ⟨rfl, tv2, lab2, X2, V2⟩
  have HGP := Lib.hid (gap_r V2 HE.out.hs HE.out.hl HA.out.1)
  clear V2
  go_wp2_with fail
  refine HGP.out.mono ?_
  intro e w3 hg
  have hgp := gp_ge E.l (E.l.length + 1) (s.a + 1)
  cases hge : gap E.l (s.a + 1) with
  | bad a =>
    rw [hge] at HR0
    rw [show (s.push (Nd.leaf 7 [] (s.a, ((s.a + 1 : Nat) : Int))) (s.a + 1)).a = s.a + 1 from rfl, hge] at hg
    obtain ⟨rfl, V3⟩ := hg
    have HV3 := Lib.hid V3
    clear V3 hge hgp
    go_wp2_with fail
    go_ret
    rw [HR0.out]
    exact ⟨rfl, HV3.out.bad⟩
  | ok e1 =>
    rw [hge] at HR0
    rw [show (s.push (Nd.leaf 7 [] (s.a, ((s.a + 1 : Nat) : Int))) (s.a + 1)).a = s.a + 1 from rfl, hge] at hg
    obtain ⟨rfl, V3⟩ := hg
    have HE1 := Lib.hid (hgp e1 HA.out.1 hge)
    have HV3 := Lib.hid (V3.mono (show b + 1 ≤ e1 by have := HE1.out; have := HA.out; omega))
    have HR1 := Lib.hid (show R = items E f n (s.push (Nd.leaf 7 [] (s.a, ((s.a + 1 : Nat) : Int))) e1) ar from HR0.out)
    clear V3 hge hgp HR0
    go_wp2_with fail
    go_loopw [] (fun wr => ∃ (f' : Nat) (s' : St) (tv' : Value) (lab' : Nat → Own) (X' : List Nx), Hid (VP G W wr B P M S s' tv' 0 0 lab' X' 0 s'.a) ∧ Hid (R = items E f' n s' ar) ∧ Hid (n < s'.X.length ∧ s.a < s'.a ∧ s'.a ≤ E.l.length ∧ 2 * (E.l.length - s'.a) + 2 ≤ f' ∧ f' ≤ f)) (fun wr => E.l.length - atOf P wr)
    case atStart => exact ⟨f, _, _, _, _, HV3, HR1, Lib.hid ⟨by rw [push_len, HN.out]; omega, by show s.a < e1; have := HE1.out; omega, by show e1 ≤ _; exact HE1.out.2, by show 2 * (E.l.length - e1) + 2 ≤ f; have := HE1.out; have := HA.out; omega, Nat.le_refl _⟩⟩
    case round =>
      obtain ⟨f', s', tv', lab', X', HV, HRR, HS⟩ := hrel
      obtain ⟨f'', rfl⟩ : ∃ f'', f' = f'' + 1 := ⟨f' - 1, by have := HS.out; omega⟩
      obtain ⟨y, hy⟩ : ∃ y, y = bt E.l s'.a := ⟨_, rfl⟩
      have HNX := Lib.hid (next_any HV.out HE.out.hs HE.out.hl HS.out.2.2.1 hy)
      by_cases h93 : y = 93
      · have HC := Lib.hid (show R = .ok (s'.close n) by rw [HRR.out, items]; exact if_pos (hy.symm.trans h93))
        have HEY := Lib.hid (fun (wx : World) (hb : Below wr.heap.size wr wx) => end_yes (HV.out.on hb) HE.out.hs HE.out.hl HS.out.2.2.1 (m := 93) (hy.symm.trans h93) (n := n) (y := (n : Nat)) rfl HS.out.1 (by have := HS.out; have := HE.out.hl; omega))
        have hal := bt_in (hy.symm.trans h93) (by decide)
        have HAL := Lib.hid hal
        subst h93
        clear hy hal
        go_wp2_with fail
        refine HNX.out.mono ?_
        rintro e w4 ⟨rfl, hb4⟩
        have HB4 := Lib.hid hb4
        clear hb4
        go_wp2_with fail
        refine (HEY.out _ HB4.out).mono ?_
        rintro e w5 ⟨rfl, V5⟩
        go_wp2_with fail
        go_ret
        rw [HC.out]
        exact ⟨rfl, V5.mono (Nat.le_succ _), by show s.a < s'.a + 1; have := HS.out; omega, by show s'.a + 1 ≤ _; exact HAL.out⟩
      · have HC := Lib.hid (show R = match val E f'' (s'.addSub n) (ar + 1) with
            | .bad c a => .bad c a
            | .out => .out
            | .ok s1 => match gap E.l s1.a with
              | .bad a => .bad 3 a
              | .ok e =>
                if bt E.l e = 44 then (match gap E.l (e + 1) with
                  | .bad a => .bad 3 a
                  | .ok e2 => items E f'' n { s1 with a := e2 } ar)
                else if bt E.l e = 93 then .ok ({ s1 with a := e }.close n)
                else .bad 3 e by rw [HRR.out, items]; exact if_neg (by rw [← hy]; exact h93))
        have hne : (y != 93) = true := by simpa using h93
        clear hy h93
        go_wp2_with fail
        refine HNX.out.mono ?_
        rintro e w4 ⟨rfl, hb4⟩
        have hv4 := HV.out.on hb4
        have HV4 := Lib.hid hv4
        have hX6 : X'.length ≤ 100000 := by have := hv4.ok.len; have := hv4.xlen; have := HS.out; have := HE.out.hl; omega
        obtain ⟨x, hx⟩ : ∃ x, X'[n]? = some x := ⟨_, List.getElem?_eq_getElem (by rw [hv4.xlen]; exact HS.out.1)⟩
        have hxn : s'.X[n]? = some x.nd := by rw [← hv4.nds, List.getElem?_map, hx]; rfl
        obtain ⟨g, c, htv, hgb, _, _⟩ := hv4.nt.blk (by rw [hv4.xlen]; have := HS.out.1; omega)
        obtain ⟨A2, n2, c2k, e2, hn2, z2, f2, hr2, hc2⟩ := VP.fld (j := 2) hv4 htv hx (by omega)
        obtain ⟨xl, hxl⟩ : ∃ xl, xl = X'.length := ⟨_, rfl⟩
        have c0 := hv4.cells.1
        rw [htv, ← hxl] at c0
        have c0a : ∀ o, (w4.alloc o).cell? ⟨P, 0, none⟩ = some (.slice (some ⟨g, 0, none⟩) xl c) := fun o => by rw [World.cell?_alloc_lt _ _ _ hv4.plt]; exact c0
        have z2a : ∀ o, (w4.alloc o).cell? ⟨g, n * 7 + (2 + 2), none⟩ = some (.slice A2 n2 c2k) := fun o => by rw [World.cell?_alloc_lt _ _ _ (World.block_lt_of_cell? _ _ z2)]; exact z2
        have hnx : n < xl := by rw [hxl, hv4.xlen]; exact HS.out.1
        have hx6 : xl ≤ 100000 := by omega
        have HR2 := Lib.hid (show w4.ownsRow W.heap.size 3 1 (.slice A2 n2 c2k) n2 (x.nd.subs.flatMap inC) from hr2)
        have hn2s : n2 = x.nd.subs.length := hn2
        have hn26 : n2 ≤ 200000 := by
          have h1 := (hv4.ok.rows x.nd (List.mem_of_getElem? hxn)).2.2
          have h2 := hv4.xlen
          omega
        have hbs : W.heap.size ≤ w4.heap.size := hv4.size
        have HC2 := Lib.hid hc2
        have HP5 := Lib.hid (show ∀ w5 o, (w4.alloc o).grownBy w5 (Value.slice A2 n2 c2k).ownBlock → w5.cell? ⟨P, 0, none⟩ = some (.slice (some ⟨g, 0, none⟩) xl c) from fun w5 o hg => by
          have e : w5.heap[P]? = w4.heap[P]? := by
            rw [hg.block P (by rw [alloc_size]; have := hv4.plt; omega) (fun e => by
              have h1 := ((hv4.nt.e n x hx 2 (by omega)).r.lt P (by rw [e2]; exact e.symm)).1
              have h2 := hv4.lt.2.1
              omega)]
            exact (World.grownBy_alloc w4 o none).block P hv4.plt (by simp)
          exact (World.cell?_of_block (a := ⟨P, 0, none⟩) e).trans c0)
        have HXL := Lib.hid (show xl = s'.X.length by rw [hxl, hv4.xlen])
        have HX := Lib.hid hx
        have HXN := Lib.hid hxn
        have HTV := Lib.hid htv
        have HGB := Lib.hid hgb
        have E2 := Lib.hid e2
        have HN2 := Lib.hid hn2s
        clear hb4 hv4 hX6 hx hxn htv hgb hn2 hr2 hc2 hxl e2 hn2s
        go_upto_region 5 with fail
        go_cut [46] from 20 to 63 (fun _ wx => ∃ (tv3 : Value) (lab3 : Nat → Own) (X3 : List Nx), Hid (VP G W wx B P M S (s'.addSub n) tv3 0 0 lab3 X3 1 s'.a))
        case first =>
          go_region_law (refine step_own rfl (.tmp 37) (.tmp 44) 38 rfl W.heap.size 3 i0 (.int .i64 0) 1 8 Tryz.underlying38 hi hz0 hz1 hz2 rfl (by decide) _ n2 (x.nd.subs.flatMap inC) rfl (HR2.out.alloc _) ⟨w4.heap.size, 0, none⟩ 1 1 [.int .i64 (xl : Nat)] rfl rfl (cell_one_new _ _ _) (by intro u hu; simp at hu; subst hu; rfl) (by unfold maxLen; omega) (by omega) (by simp; omega) ?_; intro v' w5 hown5 hg5 hl5; obtain ⟨c5, f5⟩ := HC2.out _ _ (by first | exact hg5 | exact gDrew hg5); have p5 := HP5.out _ _ (by first | exact hg5 | exact gDrew hg5); obtain ⟨vA, vc, rfl, _⟩ := (Rr.of_own hown5).shape)
          all_goals
            have HH := Lib.hid (VP.field (j := 2) (nd' := Nd.addSub xl x.nd) (s' := s'.addSub n) (p' := 1) HV4.out HX.out (by omega) (by rw [E2.out]; first | exact hg5 | exact gDrew hg5) (by
              show w5.ownsRow W.heap.size 3 1 _ (x.nd.subs ++ [xl]).length ((x.nd.subs ++ [xl]).flatMap inC)
              rw [List.length_append, List.flatMap_append, ← HN2.out]
              exact hown5) (by rw [E2.out]; exact hl5) ⟨rfl, rfl, rfl⟩ (fun j hj hj2 => by
              have : j = 0 ∨ j = 1 := by omega
              rcases this with rfl | rfl <;> exact ⟨rfl, rfl⟩) HGB.out ⟨by
                show s'.X.modify n _ = s'.X.set n _
                rw [HXL.out]
                exact (set_modify (f := Nd.addSub s'.X.length) HXN.out).symm, rfl, rfl⟩ (HV4.out.ok.addSub n))
            clear hown5 hg5 hl5 c5 f5 p5
            go_wp2_with fail
            go_meet
            exact ⟨_, _, _, HH⟩
        case rest =>
          obtain ⟨tv3, lab3, X3, HV3⟩ := hcut
          have HVAL := Lib.hid (fun (y : Int) (hy : y = ((ar + 1 : Nat) : Int)) => show Calls Tryz.prog 26 #[.pointer (some ⟨P, 0, none⟩), .int .i64 y] wc (VOut G W B P M S E.l.length s'.a (val E f'' (s'.addSub n) (ar + 1))) from by
            subst hy
            have h1 := HS.out
            exact HVC'.out f'' (by omega) G wc (s'.addSub n) tv3 lab3 X3 1 s'.a (ar + 1) (Nat.le_refl _) (Nat.le_refl _) h1.2.2.1 (by show 2 * (E.l.length - s'.a) + 1 ≤ f''; omega) HV3.out)
          clear c0 c0a z2 z2a f2
          go_wp2_with fail
          refine (HVAL.out _ (by omega)).mono ?_
          intro e w6 hvo
          cases hr : val E f'' (s'.addSub n) (ar + 1) with
          | out => rw [hr] at hvo; exact absurd hvo (by unfold VOut; exact fun h => h)
          | bad c a =>
            rw [hr] at hvo HC
            obtain ⟨rfl, hbad⟩ := hvo
            have HBD := Lib.hid hbad
            clear hbad hr
            go_wp2_with fail
            go_ret
            rw [HC.out]
            exact ⟨rfl, HBD.out⟩
          | ok s1 =>
            have hlen := (vlen E f'').1 _ _ _ hr
            rw [sub_len] at hlen
            rw [hr] at hvo HC
            obtain ⟨rfl, ⟨tv6, lab6, X6, V6⟩, h5, h6⟩ := hvo
            have HGP := Lib.hid (gap_r V6 HE.out.hs HE.out.hl h6)
            have H56 := Lib.hid (And.intro (And.intro h5 h6) hlen)
            clear V6 h5 h6 hlen hr
            go_wp2_with fail
            refine HGP.out.mono ?_
            intro e w7 hg
            have hgp := gp_ge E.l (E.l.length + 1) s1.a
            cases hge : gap E.l s1.a with
            | bad a =>
              rw [hge] at HC hg
              obtain ⟨rfl, V7⟩ := hg
              have HV7 := Lib.hid V7
              clear V7 hge hgp
              go_wp2_with fail
              go_ret
              rw [HC.out]
              exact ⟨rfl, HV7.out.bad⟩
            | ok e3 =>
              rw [hge] at HC hg
              obtain ⟨rfl, V7⟩ := hg
              have HE3 := Lib.hid (hgp e3 H56.out.1.2 hge)
              obtain ⟨z, hz⟩ : ∃ z, z = decide (bt E.l e3 = 44) := ⟨_, rfl⟩
              have TK := Lib.hid (takes_any V7 HE.out.hs HE.out.hl HE3.out.2 44 hz)
              clear V7 hge hgp
              go_wp2_with fail
              refine TK.out.mono ?_
              rintro e w8 ⟨rfl, V8⟩
              cases z with
              | false =>
                have h44 := of_decide_eq_false hz.symm
                rw [if_neg (by decide)] at V8
                have HC3 := Lib.hid (show R = if bt E.l e3 = 93 then .ok ({ s1 with a := e3 }.close n) else .bad 3 e3 from HC.out.trans (if_neg h44))
                by_cases h93 : bt E.l e3 = 93
                · have HC4 := Lib.hid (HC3.out.trans (if_pos h93))
                  have HEY := Lib.hid (end_yes V8 HE.out.hs HE.out.hl HE3.out.2 (m := 93) h93 (n := n) (y := (n : Nat)) rfl (by show n < s1.X.length; have := HS.out.1; have := H56.out.2; omega) (by have := H56.out; have := HE.out.hl; omega))
                  have HAL := Lib.hid (bt_in h93 (by decide))
                  clear V8 hz h44 h93
                  go_wp2_with fail
                  refine HEY.out.mono ?_
                  rintro e w9 ⟨rfl, V9⟩
                  go_wp2_with fail
                  go_ret
                  rw [HC4.out]
                  have h1 := HS.out
                  have h2 := H56.out
                  have h3 := HE3.out
                  exact ⟨rfl, V9.mono (by show s1.a ≤ e3 + 1; omega), by show s.a < e3 + 1; omega, by show e3 + 1 ≤ _; exact HAL.out⟩
                · have HC4 := Lib.hid (HC3.out.trans (if_neg h93))
                  have HEN := Lib.hid (end_no (n := (n : Nat)) V8 HE.out.hs HE.out.hl HE3.out.2 (m := 93) h93)
                  clear V8 hz h44 h93
                  go_wp2_with fail
                  refine HEN.out.mono ?_
                  rintro e w9 ⟨rfl, V9⟩
                  go_wp2_with fail
                  go_ret
                  rw [HC4.out]
                  exact ⟨rfl, V9⟩
              | true =>
                have h44 := of_decide_eq_true hz.symm
                have hal := bt_in h44 (by decide)
                first | rw [if_pos rfl] at V8 | rw [if_pos trivial] at V8
                have HC3 := Lib.hid (show R = match gap E.l (e3 + 1) with | .bad a => .bad 3 a | .ok e2 => items E f'' n { s1 with a := e2 } ar from HC.out.trans (if_pos h44))
                have HG2 := Lib.hid (gap_r V8 HE.out.hs HE.out.hl (by show e3 + 1 ≤ _; exact hal))
                have HAL := Lib.hid hal
                clear V8 hz h44 hal
                go_wp2_with fail
                refine HG2.out.mono ?_
                intro e w9 hg
                have hgp := gp_ge E.l (E.l.length + 1) (e3 + 1)
                cases hge : gap E.l (e3 + 1) with
                | bad a =>
                  rw [hge] at HC3
                  rw [hge] at hg
                  obtain ⟨rfl, V9⟩ := hg
                  have HV9 := Lib.hid V9
                  clear V9 hge hgp
                  go_wp2_with fail
                  go_ret
                  rw [HC3.out]
                  exact ⟨rfl, HV9.out.bad⟩
                | ok e4 =>
                  rw [hge] at HC3
                  rw [hge] at hg
                  obtain ⟨rfl, V9⟩ := hg
                  have h4 := hgp e4 HAL.out hge
                  have H4 := Lib.hid h4
                  have HV9 := Lib.hid (V9.mono (show s1.a ≤ e4 by have := HE3.out; omega))
                  clear V9 hge hgp h4
                  go_wp2_with fail
                  go_roundw
                  case rel =>
                    have h1 := HS.out
                    have h2 := H56.out
                    have h3 := HE3.out
                    have h5 := H4.out
                    exact ⟨f'', { s1 with a := e4 }, _, _, _, HV9, HC3, Lib.hid ⟨by show n < s1.X.length; omega, by show s.a < e4; omega, by show e4 ≤ _; exact h5.2, by show 2 * (E.l.length - e4) + 2 ≤ f''; omega, by omega⟩⟩
                  case measure =>
                    have h1 := HS.out
                    have h2 := H56.out
                    have h3 := HE3.out
                    have h5 := H4.out
                    rw [HV.out.atOf, HV9.out.atOf]
                    show E.l.length - e4 < E.l.length - s'.a
                    omega
end
end Tv
end Go.Proofs.YtbeefjhcbphiaaaGreatDoor
/- The reader over a table. -/
namespace Go.Proofs.YtbeefjhcbphiaaaGreatDoor
open Go.RowKit
namespace Tv
open Ty (WR1 KR Ky Bs blK endP endP_on endP_no endP_far)

/-- What a table tells. -/
def tableR (E : Env) (f : Nat) (s : St) (ar : Nat) : Rs := if 256 ≤ ar then .bad 4 s.a
  else if bt E.l (endP blK E.l (s.a + 1)) = 125 then .ok ((s.push (Nd.leaf 8 [] (s.a, ((s.a + 1 : Nat) : Int))) (endP blK E.l (s.a + 1))).close s.X.length)
  else pairs E f s.X.length (s.push (Nd.leaf 8 [] (s.a, ((s.a + 1 : Nat) : Int))) (endP blK E.l (s.a + 1))) ar
theorem pairs_eq (E : Env) (f n : Nat) (s : St) (ar : Nat) : pairs E (f + 1) n s ar = match pairR E f n { s with a := endP blK E.l s.a } ar with
    | .bad c a => .bad c a
    | .out => .out
    | .ok s2 =>
      if bt E.l (endP blK E.l s2.a) = 44 then pairs E f n { s2 with a := endP blK E.l s2.a + 1 } ar
      else if bt E.l (endP blK E.l s2.a) = 125 then .ok ({ s2 with a := endP blK E.l s2.a }.close n)
      else .bad 3 (endP blK E.l s2.a) := by
  rw [pairs]
  unfold pairR
  simp only
  cases E.kd (endP blK E.l s.a) with
  | bad c a => rfl
  | out => rfl
  | ok k e =>
    simp only
    cases lead k n (ar + 1) { s with a := endP blK E.l s.a } with
    | bad c a => rfl
    | out => rfl
    | ok s1 =>
      simp only
      by_cases h : bt E.l (endP blK E.l e) = 61
      · rw [if_pos h, if_pos h]; cases val E f { s1 with a := endP blK E.l (endP blK E.l e + 1) } (ar + k.length) <;> rfl
      · rw [if_neg h, if_neg h]
section
variable {G : List (Nat × Obj)} {W w w' : World} {B P M : Nat} {S : ByteArray} {s : St} {tv : Value} {lab : Nat → Own} {X : List Nx} {p b : Nat} {E : Env}
theorem pair_len {f n ar : Nat} {s s' : St} (h : pairR E f n s ar = .ok s') : s.X.length ≤ s'.X.length := by
  unfold pairR at h
  split at h
  · cases h
  · cases h
  · split at h
    · cases h
    · cases h
    · rename_i s1 hl
      have h1 := lead_len _ _ _ _ _ hl
      split at h
      · have h2 := (vlen E f).1 _ _ _ h; exact Nat.le_trans h1 h2
      · cases h
/-- What holds between two pairs; behind the last one. -/
def TabRel (G : List (Nat × Obj)) (W : World) (B P M : Nat) (S : ByteArray) (E : Env) (f n a0 ar : Nat) (R : Rs) (z : Bool) (wr : World) : Prop := match z with
  | true => ∃ (f' : Nat) (s' : St) (tv' : Value) (lab' : Nat → Own) (X' : List Nx), Hid (VP G W wr B P M S s' tv' 0 0 lab' X' 0 s'.a) ∧ Hid (R = pairs E f' n s' ar) ∧ Hid (n < s'.X.length ∧ a0 < s'.a ∧ s'.a ≤ E.l.length ∧ 2 * (E.l.length - s'.a) + 2 ≤ f' ∧ f' ≤ f)
  | false => ∃ (s' : St) (tv' : Value) (lab' : Nat → Own) (X' : List Nx), Hid (VP G W wr B P M S s' tv' 0 0 lab' X' 0 s'.a) ∧ Hid (R = if bt E.l s'.a = 125 then .ok (s'.close n) else .bad 3 s'.a) ∧ Hid (n < s'.X.length ∧ a0 < s'.a ∧ s'.a ≤ E.l.length)
def oneOf : Value → Nat
  | .bool true => 1
  | _ => 0
set_option maxHeartbeats 64000000 in
set_option maxRecDepth 100000 in
theorem table_any {f ar : Nat} (HVC : ∀ f', f' ≤ f → ValC W B P M S E f') (H : EnvC W B E S) (h : VP G W w B P M S s tv 0 0 lab X p b) (hp : p ≤ 1) (hb : b ≤ s.a) (h123 : bt E.l s.a = 123) (hf : 2 * (E.l.length - s.a) ≤ f) :
    Calls Tryz.prog 76 #[.pointer (some ⟨P, 0, none⟩), .int .i64 (ar : Nat)] w (VOut G W B P M S E.l.length s.a (tableR E f s ar)) := by
  have ha1 : s.a + 1 ≤ E.l.length := bt_in h123 (by decide)
  have hl5 := H.hl
  by_cases har : 256 ≤ ar
  · have HB := Lib.hid (begin_deep (k := 8) (ar := (ar : Nat)) h (by omega))
    have HR := Lib.hid (show tableR E f s ar = .bad 4 s.a from if_pos har)
    clear h HVC H hb h123 hf ha1 hl5 har
    go_enter Tryz.func76, Tryz.ntmps76
    go_wp2_with fail
    refine HB.out.mono ?_
    rintro e w2 ⟨rfl, V2⟩
    go_wp2_with fail
    go_ret
    rw [HR.out]
    exact ⟨rfl, V2⟩
  have HB := Lib.hid (begin_ok (kd := 8) (k := 8) (ar := (ar : Nat)) h hp (by omega) rfl (by omega) (by omega))
  obtain ⟨n, hn⟩ : ∃ n, n = s.X.length := ⟨_, rfl⟩
  obtain ⟨q, hq⟩ : ∃ q, q = endP blK E.l (s.a + 1) := ⟨_, rfl⟩
  have hR0 : tableR E f s ar = if bt E.l q = 125 then .ok ((s.push (Nd.leaf 8 [] (s.a, ((s.a + 1 : Nat) : Int))) q).close n) else pairs E f n (s.push (Nd.leaf 8 [] (s.a, ((s.a + 1 : Nat) : Int))) q) ar := by rw [hn, hq]; exact if_neg har
  rw [← hn] at HB
  obtain ⟨R, hR⟩ : ∃ R, R = tableR E f s ar := ⟨_, rfl⟩
  rw [← hR] at hR0 ⊢
  have HR0 := Lib.hid hR0
  have HE := Lib.hid H
  have HVC' := Lib.hid HVC
  have HQ := Lib.hid (show q = endP blK E.l (s.a + 1) ∧ s.a + 1 ≤ q ∧ q ≤ E.l.length from ⟨hq, by rw [hq]; exact Ty.endP_ge .., by rw [hq]; exact Ty.endP_le _ _ _ ha1⟩)
  have HA := Lib.hid (And.intro ha1 (And.intro hb hf))
  have HN := Lib.hid hn
  have har2 : ar < 256 := by omega
  have hn6 : n ≤ 100000 := by have := h.ok.len; omega
  have HLN := Lib.hid hl5
  clear h HVC H hb h123 hf hR0 hR hn har ha1 hl5 hq
  go_enter Tryz.func76, Tryz.ntmps76
  go_wp2_with fail
  refine HB.out.mono ?_
  rintro e w2 ⟨rfl, tv2, lab2, X2, V2⟩
  have HBL := Lib.hid (blanks_r V2 HE.out.hs HE.out.hl HA.out.1)
  clear V2
  go_wp2_with fail
  refine HBL.out.mono ?_
  rintro e w3 ⟨rfl, V3⟩
  have V3 : VP G W w3 B P M S (s.push (Nd.leaf 8 [] (s.a, ((s.a + 1 : Nat) : Int))) q) tv2 0 0 lab2 X2 0 (b + 1) := by rw [HQ.out.1]; exact V3
  obtain ⟨y, hy⟩ : ∃ y, y = bt E.l q := ⟨_, rfl⟩
  have HNX := Lib.hid (next_any V3 HE.out.hs HE.out.hl HQ.out.2.2 hy)
  have HV3 := Lib.hid V3
  clear V3
  by_cases h125 : y = 125
  · have HR1 := Lib.hid (HR0.out.trans (if_pos (hy.symm.trans h125)))
    have HEY := Lib.hid (fun (wx : World) (hb : Below w3.heap.size w3 wx) => end_yes (HV3.out.on hb) HE.out.hs HE.out.hl HQ.out.2.2 (m := 125) (hy.symm.trans h125) (n := n) (y := (n : Nat)) rfl (by rw [push_len, HN.out]; omega) (by have := HA.out; have := HLN.out; omega))
    have HAL := Lib.hid (bt_in (hy.symm.trans h125) (by decide))
    subst h125
    clear hy
    go_wp2_with fail
    refine HNX.out.mono ?_
    rintro e w4 ⟨rfl, hb4⟩
    have HB4 := Lib.hid hb4
    clear hb4
    go_wp2_with fail
    refine (HEY.out _ HB4.out).mono ?_
    rintro e w5 ⟨rfl, V5⟩
    go_wp2_with fail
    go_ret
    rw [HR1.out]
    exact ⟨rfl, V5.mono (by show b + 1 ≤ q + 1; have := HA.out; have := HQ.out; omega), by show s.a < q + 1; have := HQ.out; omega, by show q + 1 ≤ _; exact HAL.out⟩
  have hne : (y == 125) = false := by simpa using h125
  have HR1 := Lib.hid (HR0.out.trans (if_neg (by rw [← hy]; exact h125)))
  clear hy h125
  go_wp2_with fail
  refine HNX.out.mono ?_
  rintro e w4 ⟨rfl, hb4⟩
  have HV4 := Lib.hid ((HV3.out.on hb4).mono (show b + 1 ≤ q by have := HA.out; have := HQ.out; omega))
  clear hb4
  go_wp2_with fail
  go_loopw [7] (fun a7 wr => ∃ z : Bool, a7 = .bool z ∧ Hid (TabRel G W B P M S E f n s.a ar R z wr)) (fun a7 wr => 2 * (E.l.length - atOf P wr) + oneOf a7)
  case atStart => exact ⟨true, rfl, Lib.hid ⟨f, _, _, _, _, HV4, HR1, Lib.hid ⟨by rw [push_len, HN.out]; omega, by show s.a < q; have := HQ.out; omega, by show q ≤ _; exact HQ.out.2.2, by show 2 * (E.l.length - q) + 2 ≤ f; have := HQ.out; have := HA.out; omega, Nat.le_refl _⟩⟩⟩
  case round =>
    obtain ⟨z0, rfl, HTR⟩ := hrel
    cases z0 with
    | false =>
      obtain ⟨s', tv', lab', X', HV, HRR, HS⟩ := HTR.out
      by_cases h125 : bt E.l s'.a = 125
      · have HC4 := Lib.hid (HRR.out.trans (if_pos h125))
        have HEY := Lib.hid (end_yes HV.out HE.out.hs HE.out.hl HS.out.2.2 (m := 125) h125 (n := n) (y := (n : Nat)) rfl HS.out.1 (by have := HS.out; have := HE.out.hl; omega))
        have HAL := Lib.hid (bt_in h125 (by decide))
        clear h125
        go_wp2_with fail
        refine HEY.out.mono ?_
        rintro e w9 ⟨rfl, V9⟩
        go_wp2_with fail
        go_ret
        rw [HC4.out]
        have h1 := HS.out
        exact ⟨rfl, V9.mono (Nat.le_succ _), by show s.a < s'.a + 1; omega, by show s'.a + 1 ≤ _; exact HAL.out⟩
      · have HC4 := Lib.hid (HRR.out.trans (if_neg h125))
        have HEN := Lib.hid (end_no (n := (n : Nat)) HV.out HE.out.hs HE.out.hl HS.out.2.2 (m := 125) h125)
        clear h125
        go_wp2_with fail
        refine HEN.out.mono ?_
        rintro e w9 ⟨rfl, V9⟩
        go_wp2_with fail
        go_ret
        rw [HC4.out]
        exact ⟨rfl, V9⟩
    | true =>
    obtain ⟨f', s', tv', lab', X', HV, HRR, HS⟩ := HTR.out
    obtain ⟨f'', rfl⟩ : ∃ f'', f' = f'' + 1 := ⟨f' - 1, by have := HS.out; omega⟩
    obtain ⟨q1, hq1⟩ : ∃ q1, q1 = endP blK E.l s'.a := ⟨_, rfl⟩
    have HQ1 := Lib.hid (show s'.a ≤ q1 ∧ q1 ≤ E.l.length from ⟨by rw [hq1]; exact Ty.endP_ge .., by rw [hq1]; exact Ty.endP_le _ _ _ HS.out.2.2.1⟩)
    have HBL1 := Lib.hid (blanks_r HV.out HE.out.hs HE.out.hl HS.out.2.2.1)
    rw [← hq1] at HBL1
    have HC := Lib.hid (HRR.out.trans (pairs_eq E f'' n s' ar))
    rw [← hq1] at HC
    clear hq1
    go_wp2_with fail
    refine HBL1.out.mono ?_
    rintro e w5 ⟨rfl, V5⟩
    have HPR := Lib.hid (fun (y2 : Int) (hy2 : y2 = ((ar + 1 : Nat) : Int)) => pair_any (f := f'') (n := n) (ar := ar) (HVC'.out f'' (by have := HS.out; omega)) HE.out V5 (show s'.a ≤ q1 from HQ1.out.1) HQ1.out.2 (show n < s'.X.length from HS.out.1) (by show 2 * (E.l.length - q1) + 1 ≤ f''; have := HS.out; have := HQ1.out; omega) har2 (y1 := (n : Nat)) (y2 := y2) rfl hy2)
    clear V5
    go_wp2_with fail
    refine (HPR.out _ (by omega)).mono ?_
    intro e w6 hvo
    cases hr : pairR E f'' n { s' with a := q1 } ar with
    | out => rw [hr] at hvo; exact absurd hvo (by unfold VOut; exact fun h => h)
    | bad c a =>
      rw [hr] at hvo HC
      obtain ⟨rfl, hbad⟩ := hvo
      have HBD := Lib.hid hbad
      clear hbad hr
      go_wp2_with fail
      go_ret
      rw [HC.out]
      exact ⟨rfl, HBD.out⟩
    | ok s2 =>
      have hlen := pair_len hr
      replace hlen : s'.X.length ≤ s2.X.length := hlen
      rw [hr] at hvo HC
      obtain ⟨rfl, ⟨tv6, lab6, X6, V6⟩, h5, h6⟩ := hvo
      have h5 : q1 < s2.a := h5
      have HBL2 := Lib.hid (blanks_r V6 HE.out.hs HE.out.hl h6)
      obtain ⟨q2, hq2⟩ : ∃ q2, q2 = endP blK E.l s2.a := ⟨_, rfl⟩
      have HQ2 := Lib.hid (show s2.a ≤ q2 ∧ q2 ≤ E.l.length from ⟨by rw [hq2]; exact Ty.endP_ge .., by rw [hq2]; exact Ty.endP_le _ _ _ h6⟩)
      have H56 := Lib.hid (And.intro (And.intro h5 h6) hlen)
      have HC := Lib.hid (show R = if bt E.l (endP blK E.l s2.a) = 44 then pairs E f'' n { s2 with a := endP blK E.l s2.a + 1 } ar
        else if bt E.l (endP blK E.l s2.a) = 125 then .ok ({ s2 with a := endP blK E.l s2.a }.close n)
        else .bad 3 (endP blK E.l s2.a) from HC.out)
      rw [← hq2] at HBL2 HC
      clear V6 h5 h6 hlen hr hq2
      go_wp2_with fail
      refine HBL2.out.mono ?_
      rintro e w7 ⟨rfl, V7⟩
      obtain ⟨z, hz⟩ : ∃ z, z = decide (bt E.l q2 = 44) := ⟨_, rfl⟩
      have TK := Lib.hid (takes_any V7 HE.out.hs HE.out.hl HQ2.out.2 44 hz)
      clear V7
      go_wp2_with fail
      refine TK.out.mono ?_
      rintro e w8 ⟨rfl, V8⟩
      have h1 := HS.out
      have h2 := H56.out
      have h3 := HQ2.out
      have h4 := HQ1.out
      cases z with
      | false =>
        have h44 := of_decide_eq_false hz.symm
        rw [if_neg (by decide)] at V8
        have N : Hid (TabRel G W B P M S E f n s.a ar R false w8) := Lib.hid ⟨{ s2 with a := q2 }, _, _, _, Lib.hid (V8.mono (show s2.a ≤ q2 from h3.1)), Lib.hid (HC.out.trans (if_neg h44)), Lib.hid ⟨by show n < s2.X.length; omega, by show s.a < q2; omega, h3.2⟩⟩
        have ha8 := V8.atOf
        have HM := Lib.hid (show 2 * (E.l.length - atOf P w8) + 0 < 2 * (E.l.length - atOf P wr) + 1 by rw [HV.out.atOf, ha8]; show 2 * (E.l.length - q2) + 0 < 2 * (E.l.length - s'.a) + 1; omega)
        clear V8 h1 h2 h3 h4 hz h44 ha8
        go_wp2_with fail
        go_roundw
        case rel => exact ⟨false, rfl, N⟩
        case measure => exact HM.out
      | true =>
        have h44 := of_decide_eq_true hz.symm
        have hal := bt_in h44 (by decide)
        first | rw [if_pos rfl] at V8 | rw [if_pos trivial] at V8
        have N : Hid (TabRel G W B P M S E f n s.a ar R true w8) := Lib.hid ⟨f'', { s2 with a := q2 + 1 }, _, _, _, Lib.hid (V8.mono (show s2.a ≤ q2 + 1 by omega)), Lib.hid (HC.out.trans (if_pos h44)), Lib.hid ⟨by show n < s2.X.length; omega, by show s.a < q2 + 1; omega, by show q2 + 1 ≤ _; exact hal, by show 2 * (E.l.length - (q2 + 1)) + 2 ≤ f''; omega, by omega⟩⟩
        have ha8 := V8.atOf
        have HM := Lib.hid (show 2 * (E.l.length - atOf P w8) + 1 < 2 * (E.l.length - atOf P wr) + 1 by rw [HV.out.atOf, ha8]; show 2 * (E.l.length - (q2 + 1)) + 1 < 2 * (E.l.length - s'.a) + 1; omega)
        clear V8 h1 h2 h3 h4 hz h44 hal ha8
        go_wp2_with fail
        go_roundw
        case rel => exact ⟨true, rfl, N⟩
        case measure => exact HM.out
end
end Tv
end Go.Proofs.YtbeefjhcbphiaaaGreatDoor
/- The reader over a value, by its first byte. -/
namespace Go.Proofs.YtbeefjhcbphiaaaGreatDoor
open Go.RowKit
namespace Tv
open Ty (WR1 KR Ky Bs blK endP endP_on endP_no endP_far)

abbrev fnV (k : Nat) : Value := .func (.func k) #[] #[]
theorem wayBy_is {c : Int} {k : Nat} (w : World) (h : k = if c = 34 ∨ c = 39 then 74 else if c = 91 then 75 else if c = 123 then 76 else 77) :
    Calls Tryz.prog 46 #[.int .u8 c] w fun e w' => e = .returned (fnV k) ∧ w = w' := by
  by_cases h1 : c = 34
  · subst h1
    obtain rfl : k = _ := h
    go_enter Tryz.func46, Tryz.ntmps46
    go_wp2_with fail
    go_ret
    exact ⟨rfl, rfl⟩
  by_cases h2 : c = 39
  · subst h2
    obtain rfl : k = _ := h
    clear h1
    go_enter Tryz.func46, Tryz.ntmps46
    go_wp2_with fail
    go_ret
    exact ⟨rfl, rfl⟩
  by_cases h3 : c = 91
  · subst h3
    obtain rfl : k = _ := h
    clear h1 h2
    go_enter Tryz.func46, Tryz.ntmps46
    go_wp2_with fail
    go_ret
    exact ⟨rfl, rfl⟩
  by_cases h4 : c = 123
  · subst h4
    obtain rfl : k = _ := h
    clear h1 h2 h3
    go_enter Tryz.func46, Tryz.ntmps46
    go_wp2_with fail
    go_ret
    exact ⟨rfl, rfl⟩
  rw [if_neg (by omega), if_neg h3, if_neg h4] at h
  subst h
  have d1 : (c == 34) = false := by simpa using h1
  have d2 : (c == 39) = false := by simpa using h2
  have d3 : (c == 91) = false := by simpa using h3
  have d4 : (c == 123) = false := by simpa using h4
  clear h1 h2 h3 h4
  go_enter Tryz.func46, Tryz.ntmps46
  go_wp2_with fail
  go_ret
  exact ⟨rfl, rfl⟩
section
variable {G : List (Nat × Obj)} {W w w' : World} {B P M : Nat} {S : ByteArray} {s : St} {tv : Value} {lab : Nat → Own} {X : List Nx} {p b : Nat} {E : Env}
set_option maxHeartbeats 4000000 in
set_option maxRecDepth 100000 in
theorem value_by {k ar : Nat} {Q : Ending → World → Prop} (H : EnvC W B E S) (h : VP G W w B P M S s tv 0 0 lab X p b) (ha : s.a ≤ E.l.length)
    (hk : k = if bt E.l s.a = 34 ∨ bt E.l s.a = 39 then 74 else if bt E.l s.a = 91 then 75 else if bt E.l s.a = 123 then 76 else 77)
    (hk4 : k = 74 ∨ k = 75 ∨ k = 76 ∨ k = 77)
    (hC : ∀ wx, Below w.heap.size w wx → Calls Tryz.prog k #[.pointer (some ⟨P, 0, none⟩), .int .i64 (ar : Nat)] wx fun e w' => ∃ z : Bool, e = .returned (.bool z) ∧ Q e w') :
    Calls Tryz.prog 26 #[.pointer (some ⟨P, 0, none⟩), .int .i64 (ar : Nat)] w Q := by
  obtain ⟨y, hy⟩ : ∃ y, y = bt E.l s.a := ⟨_, rfl⟩
  have HNX := Lib.hid (next_any h H.hs H.hl ha hy)
  rw [← hy] at hk
  have HWB := Lib.hid (fun w => wayBy_is w hk)
  have HC := Lib.hid hC
  clear h H ha hk hy hC
  rcases hk4 with rfl | rfl | rfl | rfl
  all_goals
    go_enter Tryz.func26, Tryz.ntmps26
    go_wp2_with fail
    refine HNX.out.mono ?_
    rintro e w1 ⟨rfl, hb⟩
    have HB := Lib.hid hb
    clear hb
    go_wp2_with fail
    refine (HWB.out _).mono ?_
    rintro e w2 ⟨rfl, rfl⟩
    go_wp2_with fail
    refine (HC.out _ HB.out).mono ?_
    rintro e w3 ⟨z, rfl, hq⟩
    have HQ := Lib.hid hq
    clear hq
    go_wp2_with fail
    exact HQ.out
theorem VOut.bool {n a0 : Nat} {r : Rs} {e : Ending} (h : VOut G W B P M S n a0 r e w) : ∃ z : Bool, e = .returned (.bool z) ∧ VOut G W B P M S n a0 r e w := by
  cases r with
  | ok s' => exact ⟨true, h.1, h⟩
  | bad c a => exact ⟨false, h.1, h⟩
  | out => exact absurd h (by unfold VOut; exact fun h => h)
theorem value_step {f : Nat} (H : EnvC W B E S) (ih : ∀ f', f' < f → ValC W B P M S E f') : ValC W B P M S E f := by
  intro G w s tv lab X p b ar hp hb ha hf h
  obtain ⟨g, rfl⟩ : ∃ g, f = g + 1 := ⟨f - 1, by omega⟩
  have ih' : ∀ f', f' ≤ g → ValC W B P M S E f' := fun f' hf' => ih f' (by omega)
  by_cases h1 : bt E.l s.a = 34 ∨ bt E.l s.a = 39
  · rw [show val E (g + 1) s ar = quo E s by rw [val, if_pos h1]]
    exact value_by (k := 74) H h ha (if_pos h1).symm (.inl rfl) fun wx hbx => (quoted_any H (h.on hbx) hp hb ha h1 _).mono fun e w' hq => hq.bool
  by_cases h2 : bt E.l s.a = 91
  · rw [show val E (g + 1) s ar = listR E g s ar by rw [val, if_neg h1, if_pos h2]; rfl]
    exact value_by (k := 75) H h ha (by rw [if_neg h1, if_pos h2]) (.inr (.inl rfl)) fun wx hbx => (list_any ih' H (h.on hbx) hp hb h2 (by omega)).mono fun e w' hq => hq.bool
  by_cases h3 : bt E.l s.a = 123
  · rw [show val E (g + 1) s ar = tableR E g s ar by rw [val, if_neg h1, if_neg h2, if_pos h3]; rfl]
    exact value_by (k := 76) H h ha (by rw [if_neg h1, if_neg h2, if_pos h3]) (.inr (.inr (.inl rfl))) fun wx hbx => (table_any ih' H (h.on hbx) hp hb h3 (by omega)).mono fun e w' hq => hq.bool
  · rw [show val E (g + 1) s ar = bare E s by rw [val, if_neg h1, if_neg h2, if_neg h3]]
    exact value_by (k := 77) H h ha (by rw [if_neg h1, if_neg h2, if_neg h3]) (.inr (.inr (.inr rfl))) fun wx hbx => (bare_r H (h.on hbx) hp hb ha _).mono fun e w' hq => hq.bool
theorem value_any (H : EnvC W B E S) (f : Nat) : ValC W B P M S E f := by
  induction f using Nat.strongRecOn with
  | ind f ih => exact value_step H ih
end
end Tv
end Go.Proofs.YtbeefjhcbphiaaaGreatDoor
