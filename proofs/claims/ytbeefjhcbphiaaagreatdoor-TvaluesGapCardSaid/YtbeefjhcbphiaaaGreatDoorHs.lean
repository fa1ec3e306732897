/- The reader: led over what a key's dots ask for. -/
import Derived.Test.YtbeefjhcbphiaaaGreatDoorHr
namespace Go.Proofs.YtbeefjhcbphiaaaGreatDoor
open Go.RowKit
namespace Tv
open Ty (WR1 KR Ky Bs blK endP endP_on endP_no endP_far)

theorem zeroI (w : World) : (zeroValue 3).run Tryz.prog w = .ok (.int .i64 0) w := by kernel_rfl
/-- A key's words and spans, in blocks that are guarded. -/
structure KeyG (G : List (Nat × Obj)) (gA gB : Nat) (k : Ky) : Prop where
  a : ∃ cur : Array Value, (gA, Obj.cells cur 9 (0, 0)) ∈ G ∧ cur.toList.take k.length = Ty.kwC k
  b : ∃ cur : Array Value, (gB, Obj.cells cur 40 (0, 0)) ∈ G ∧ cur.toList.take (k.length * 2) = Ty.ksC k
theorem KeyG.more {G G' : List (Nat × Obj)} {gA gB : Nat} {k : Ky} (h : KeyG G gA gB k) (hs : ∀ q ∈ G, q ∈ G') : KeyG G' gA gB k := by
  obtain ⟨⟨c1, a1, a2⟩, c2, b1, b2⟩ := h
  exact ⟨⟨c1, hs _ a1, a2⟩, c2, hs _ b1, b2⟩
theorem ks_at : ∀ (k : Ky) (i : Nat) (x : Bs × (Nat × Nat)), k[i]? = some x → (Ty.ksC k)[i * 2]? = some (.int .i64 (x.2.1 : Nat)) ∧ (Ty.ksC k)[i * 2 + 1]? = some (.int .i64 (x.2.2 : Nat))
  | [], _, _, h => by simp at h
  | y :: k, 0, x, h => by
    obtain rfl : y = x := by simpa using h
    exact ⟨rfl, rfl⟩
  | y :: k, i + 1, x, h => by
    have ih := ks_at k i x (by simpa using h)
    have e : Ty.ksC (y :: k) = [.int .i64 (y.2.1 : Nat), .int .i64 (y.2.2 : Nat)] ++ Ty.ksC k := by simp [Ty.ksC]
    rw [e, List.getElem?_append_right (by simp; omega), List.getElem?_append_right (by simp; omega)]
    simp only [List.length_cons, List.length_nil]
    rw [show (i + 1) * 2 - (0 + 1 + 1) = i * 2 by omega, show (i + 1) * 2 + 1 - (0 + 1 + 1) = i * 2 + 1 by omega]
    exact ih
theorem kw_len (k : Ky) : (Ty.ksC k).length = k.length * 2 := by
  induction k with
  | nil => rfl
  | cons y k ih => simp [Ty.ksC] at ih ⊢; omega
section
variable {G : List (Nat × Obj)} {W w w' : World} {B P M : Nat} {S : ByteArray} {s : St} {tv : Value} {lab : Nat → Own} {X : List Nx} {p b : Nat} {fc fa : Nat}
theorem VP.keyc {gA gB : Nat} {k : Ky} (h : VP G W w B P M S s tv fc fa lab X p b) (hK : KeyG G gA gB k) {i : Nat} {x : Bs × (Nat × Nat)} (hi : k[i]? = some x) :
    w.cell? ⟨gA, i, none⟩ = some (.string (txt x.1)) ∧ w.cell? ⟨gB, i * 2, none⟩ = some (.int .i64 (x.2.1 : Nat)) ∧ w.cell? ⟨gB, i * 2 + 1, none⟩ = some (.int .i64 (x.2.2 : Nat)) := by
  obtain ⟨⟨c1, a1, a2⟩, c2, b1, b2⟩ := hK
  have hil : i < k.length := (List.getElem?_eq_some_iff.1 hi).1
  have e1 := (h.gd _ a1).1
  have e2 := (h.gd _ b1).1
  obtain ⟨k1, k2⟩ := ks_at k i x hi
  rw [← b2, List.getElem?_take, if_pos (by omega)] at k1 k2
  have k3 : (Ty.kwC k)[i]? = some (.string (txt x.1)) := by unfold Ty.kwC; rw [List.getElem?_map, hi]; rfl
  rw [← a2, List.getElem?_take, if_pos hil] at k3
  refine ⟨?_, ?_, ?_⟩
  · rw [cell_of_row w gA i c1 _ (0, 0) e1, ← Array.getElem?_toList]; exact k3
  · rw [cell_of_row w gB _ c2 _ (0, 0) e2, ← Array.getElem?_toList]; exact k1
  · rw [cell_of_row w gB _ c2 _ (0, 0) e2, ← Array.getElem?_toList]; exact k2
theorem VP.boxc {q : Nat} {u v : Value} {T : TypeId} (h : VP G W w B P M S s tv fc fa lab X p b) (hq : (q, Obj.cells #[u, v] T (0, 0)) ∈ G) : w.cell? ⟨q, 0, none⟩ = some u ∧ w.cell? ⟨q, 1, none⟩ = some v := by
  have e1 := (h.gd _ hq).1
  constructor <;> simp [World.cell?, e1]
theorem VP.look {t : Nat} {k : Bs} (h : VP G W w B P M S s tv fc fa lab X p b) (ht : t ≤ 1000000) (hk : k.length ≤ 4000000) : Maps.has (mpD s.m) (klit (t, k)) = (lk s.m (t, k)).isSome := mp_has h.nm ht hk
set_option maxRecDepth 100000 in
theorem VP.lookR {t : Nat} {k : Bs} {Q : ByteArray} (h : VP G W w B P M S s tv fc fa lab X p b) (ht : t ≤ 1000000) (hk : k.length ≤ 4000000) (hQ : Q = txt k) :
    (Instr.lookup 65 (.map (some M)) (.agg #[.int .i64 (t : Nat), .string Q]) true).run Tryz.prog w = .ok (.tuple #[.int .i64 (((lk s.m (t, k)).getD 0 : Nat) : Int), .bool (lk s.m (t, k)).isSome]) w := by
  subst hQ
  have hz0 : plainElem (H := Unit) Tryz.prog 3 (.int .i64 0) = some (.lit (.int .i64 0), []) := plainElem_int Tryz.underlying3 (by decide)
  obtain ⟨v, ps, hrun, hv⟩ := h.map.look_ok nmLaw Tryz.underlying65 (zeroI w) hz0 (key_is ht hk)
  obtain ⟨c, rfl, hc, _⟩ := plainElem_int_inv Tryz.underlying3 hv
  have hl := h.look ht hk
  rw [hl] at hrun
  have hc := congrArg Prod.fst hc
  simp only at hc
  cases hlk : lk s.m (t, k) with
  | none =>
    rw [hlk] at hrun hl
    rw [Maps.atKey_of_not_has hl] at hc
    injection hc with hc
    injection hc with _ hc
    rw [← hc] at hrun
    exact hrun
  | some n =>
    rw [hlk] at hrun
    rw [mp_at h.nm ht hk hlk] at hc
    injection hc with hc
    injection hc with _ hc
    rw [← hc] at hrun
    exact hrun
/-- The reader's object behind an append to its nodes. -/
theorem VP.after {o : Obj} {w6 : World} (h : VP G W w B P M S s tv fc fa lab X p b) (hg : (w.alloc o).grownBy w6 tv.ownBlock) : w6.heap[P]? = w.heap[P]? := by
  have hP := h.plt
  rw [hg.block P (by rw [alloc_size]; omega) (fun e => by have := (h.nt.lt P e.symm).1; have := h.lt.2.1; omega)]
  exact (World.grownBy_alloc w o none).block P hP (by simp)
/-- What lead leaves. -/
def LOut (G : List (Nat × Obj)) (W : World) (B P M : Nat) (S : ByteArray) (a0 b : Nat) (r : Rs) (e : Ending) (w' : World) : Prop := match r with
  | .ok s' => e = .returned (.bool true) ∧ s'.a = a0 ∧ ∃ tv' lab' X', VP G W w' B P M S s' tv' 0 0 lab' X' 1 b
  | .bad c a => e = .returned (.bool false) ∧ BadP G W B P M S c a w'
  | .out => False
theorem BadP.less {G' : List (Nat × Obj)} {c a : Nat} (h : BadP G' W B P M S c a w) (hs : ∀ q ∈ G, q ∈ G') : BadP G W B P M S c a w := by
  obtain ⟨s', tv', lab', X', p', b', h⟩ := h
  exact ⟨s', tv', lab', X', p', b', h.less hs⟩
abbrev keyO (v u : Value) : Obj := .cells #[v, u] 174
theorem lead_on {k : Ky} {w : Bs} {sp : Nat × Nat} {t ar : Nat} {s : St} {L i : Nat} (hi : k[i]? = some (w, sp)) (hL : k.length = L + 1) (hlt : i < L) : lead (k.drop i) t ar s = match lk s.m (t, w) with
      | none => if 256 ≤ ar then .bad 4 sp.1 else lead (k.drop (i + 1)) s.X.length (ar + 1) (s.hang t w sp).open_
      | some n => match s.X[n]? with
        | none => .out
        | some x => if 0 ≤ x.span.1 then .bad 5 sp.1 else lead (k.drop (i + 1)) n (ar + 1) s := by
  obtain ⟨h1, h2⟩ := List.getElem?_eq_some_iff.1 hi
  have e : k.drop i = (w, sp) :: k.drop (i + 1) := by rw [← h2]; exact List.drop_eq_getElem_cons h1
  cases hd : k.drop (i + 1) with
  | nil =>
    have := congrArg List.length hd
    simp at this; omega
  | cons y r => rw [e, hd, lead]; rfl
theorem lead_last {k : Ky} {w : Bs} {sp : Nat × Nat} {t ar : Nat} {s : St} {L : Nat} (hi : k[L]? = some (w, sp)) (hL : k.length = L + 1) : lead (k.drop L) t ar s = match lk s.m (t, w) with | some _ => .bad 5 sp.1 | none => .ok (s.hang t w sp) := by
  obtain ⟨h1, h2⟩ := List.getElem?_eq_some_iff.1 hi
  have e : k.drop L = (w, sp) :: k.drop (L + 1) := by rw [← h2]; exact List.drop_eq_getElem_cons h1
  rw [e, List.drop_eq_nil_of_le (by omega), lead]; rfl
set_option maxHeartbeats 32000000 in
set_option maxRecDepth 100000 in
theorem lead_any {k : Ky} {L gA gB t ar : Nat} (hL : k.length = L + 1) (h : VP G W w B P M S s tv 0 0 lab X 0 b) (hK : KeyG G gA gB k) (ht : t < s.X.length) (hb : b + k.length ≤ 900000) (hw : ∀ x ∈ k, x.1.length ≤ 1000000) (har : ar ≤ 900000)
    {y1 y2 : Int} (hy1 : y1 = t) (hy2 : y2 = ar) :
    Calls Tryz.prog 131 #[.pointer (some ⟨P, 0, none⟩), .int .i64 y1, .int .i64 y2, .agg #[.slice (some ⟨gA, 0, none⟩) (L + 1) (L + 1), .slice (some ⟨gB, 0, none⟩) (L + 1) (L + 1)]] w (LOut G W B P M S s.a (b + L) (lead k t ar s)) := by
  subst hy1; subst hy2
  obtain ⟨i4, hi4, hz0, hz1, hz2⟩ := info_parts (show (Tryz.prog.info? 42).map (fun i => (i.zero, i.size, i.bytes)) = some (some (.agg #[.int .u8 0, .string ⟨#[]⟩, .slice none 0 0, .slice none 0 0, .slice none 0 0, .int .i64 0, .int .i64 0]), 7, 112) by kernel_rfl)
  obtain ⟨R, hR⟩ : ∃ R, R = lead k t ar s := ⟨_, rfl⟩
  rw [← hR]
  obtain ⟨KB, hKB⟩ : ∃ KB, KB = w.heap.size := ⟨_, rfl⟩
  obtain ⟨w1, hw1⟩ : ∃ w1, w1 = w.alloc (keyO (.slice (some ⟨gA, 0, none⟩) (L + 1) (L + 1)) (.slice (some ⟨gB, 0, none⟩) (L + 1) (L + 1))) := ⟨_, rfl⟩
  obtain ⟨G1, hG1⟩ : ∃ G1, G1 = [(KB, keyO (.slice (some ⟨gA, 0, none⟩) (L + 1) (L + 1)) (.slice (some ⟨gB, 0, none⟩) (L + 1) (L + 1)))] ++ G := ⟨_, rfl⟩
  have hb1 : Below w.heap.size w w1 := by rw [hw1]; exact (Below.refl _ _).alloc (Nat.le_refl _) _
  have hv1 := h.guard (L := [(KB, keyO (.slice (some ⟨gA, 0, none⟩) (L + 1) (L + 1)) (.slice (some ⟨gB, 0, none⟩) (L + 1) (L + 1)))]) hb1 (fun q hq => by
    obtain rfl : q = _ := by simpa using hq
    exact ⟨Nat.le_of_eq hKB.symm, by rw [hw1, hKB]; exact heap_alloc_new _ _⟩)
  rw [← hG1] at hv1
  have HGS := Lib.hid (show ∀ q ∈ G, q ∈ G1 from fun q hq => by rw [hG1]; exact List.mem_append_right _ hq)
  have HKG := Lib.hid (hK.more HGS.out)
  have HBX := Lib.hid (show (KB, keyO (.slice (some ⟨gA, 0, none⟩) (L + 1) (L + 1)) (.slice (some ⟨gB, 0, none⟩) (L + 1) (L + 1))) ∈ G1 by rw [hG1]; exact List.mem_append_left _ (List.mem_singleton.2 rfl))
  have HL := Lib.hid hL
  have HV1 := Lib.hid hv1
  have HR := Lib.hid hR
  have HT := Lib.hid ht
  have HW := Lib.hid hw
  have HBB := Lib.hid hb
  have hL6 : L ≤ 900000 := by omega
  have d0 := (hv1.boxc HBX.out).1
  have HAR := Lib.hid har
  clear h hK ht hb hw hL hb1 hv1 hR hG1
  go_enter Tryz.func131, Tryz.ntmps131
  go_upto_region 1 with fail
  rw [← hw1, ← hKB]
  clear hw1 hKB
  go_wp2_with fail
  go_loopw [1, 25] (fun a1 a25 wr => ∃ (i t' : Nat) (s' : St) (tv' : Value) (lab' : Nat → Own) (X' : List Nx), a1 = .int .i64 (t' : Nat) ∧ a25 = .int .i64 (i : Nat) ∧ i ≤ L ∧ t' ≤ 1000000 ∧ Hid (VP G1 W wr B P M S s' tv' 0 0 lab' X' 0 (b + i)) ∧ Hid (R = lead (k.drop i) t' (ar + i) s') ∧ Hid (t' < s'.X.length ∧ s'.a = s.a)) (fun _ a25 _ => L - (intOf a25).toNat)
  case atStart => exact ⟨0, t, s, _, _, _, rfl, rfl, Nat.zero_le _, by have := HV1.out.ok.len; have := HT.out; have := HBB.out; omega, HV1, HR, Lib.hid ⟨HT.out, rfl⟩⟩
  case round =>
    obtain ⟨i, t', s', tv', lab', X', rfl, rfl, hi, ht6, HV, HRR, HTT⟩ := hrel
    have hkl := HL.out
    obtain ⟨x, hx⟩ : ∃ x, k[i]? = some x := ⟨_, List.getElem?_eq_getElem (by omega)⟩
    obtain ⟨q, f0, t0⟩ := x
    obtain ⟨ck, cf, ct⟩ := HV.out.keyc HKG.out hx
    simp only at ck cf ct
    have hq := HW.out _ (List.mem_of_getElem? hx)
    simp only at hq
    obtain ⟨Q, hQ⟩ : ∃ Q, Q = txt q := ⟨_, rfl⟩
    rw [← hQ] at ck
    have hlook := HV.out.lookR ht6 (by omega) hQ
    have c4 := HV.out.cells.2.2.2.2.1
    obtain ⟨d0, d1⟩ := HV.out.boxc HBX.out
    have HQ := Lib.hid hQ
    have HQL := Lib.hid hq
    have HX := Lib.hid hx
    have hBI : b + i ≤ 900000 := by have := HBB.out; omega
    have hai : ar + i ≤ 1800000 := by have := HAR.out; omega
    clear hkl hx hQ hq
    by_cases hlt : i < L
    · have HST := Lib.hid (HRR.out.trans (lead_on HX.out HL.out hlt))
      have HLT := Lib.hid hlt
      cases hlk : lk s'.m (t', q) with
      | none =>
        have HLK := Lib.hid hlk
        rw [hlk] at hlook
        simp only [Option.getD_none, Option.isSome_none] at hlook
        clear hlk
        by_cases hd : 256 ≤ ar + i
        · have HRB := Lib.hid (show R = .bad 4 f0 by rw [HST.out, HLK.out]; exact if_pos hd)
          have hd2 : (256 : Int) ≤ (ar : Int) + i := by omega
          have HF := Lib.hid (fail_any (c := 4) (k := f0) HV.out (y1 := 4) (y2 := (f0 : Nat)) rfl rfl)
          clear hd
          go_wp2_with fail
          refine HF.out.mono ?_
          rintro e w2 ⟨rfl, V2⟩
          go_wp2_with fail
          go_ret
          rw [HRB.out]
          exact ⟨rfl, V2.bad.less HGS.out⟩
        · have HRB := Lib.hid (show R = lead (k.drop (i + 1)) s'.X.length (ar + i + 1) (s'.hang t' q (f0, t0)).open_ by rw [HST.out, HLK.out]; exact if_neg hd)
          have hd2 : ¬ (256 : Int) ≤ (ar : Int) + i := by omega
          have HH := Lib.hid (hang_any HV.out HTT.out.1 (by omega) HQL.out HQ.out (y := (t' : Nat)) rfl f0 t0)
          clear hd
          go_wp2_with fail
          refine HH.out.mono ?_
          rintro e w2 ⟨rfl, tv2, lab2, X2, V2⟩
          obtain ⟨nA, c, et, _⟩ := (Rr.of_own V2.nt.row).shape
          subst et
          obtain ⟨xl, hxl⟩ : ∃ xl, xl = X2.length := ⟨_, rfl⟩
          have HXL := Lib.hid hxl
          have hxs : X2.length = s'.X.length := by rw [V2.xlen]; exact List.length_modify ..
          have HXS := Lib.hid hxs
          have hX6 : xl ≤ 1000000 := by have := V2.ok.len; have := V2.xlen; omega
          have HV2 := Lib.hid V2
          have c0 := V2.cells.1
          rw [← hxl] at c0
          have HR3 := Lib.hid V2.nt.row
          rw [← hxl] at HR3
          have hbs : W.heap.size ≤ w2.heap.size := V2.size
          have HTB := Lib.hid (fun (w6 : World) (o : Obj) (hg : (w2.alloc o).grownBy w6 (Value.slice nA X2.length c).ownBlock) => show w6.cell? ⟨P, 0, none⟩ = some (.slice nA xl c) ∧ w6.frozen? ⟨P, 0, none⟩ = false from by
            have e := HV2.out.after hg
            exact ⟨(World.cell?_of_block (a := ⟨P, 0, none⟩) e).trans (by rw [HXL.out]; exact HV2.out.cells.1), (World.frozen?_of_block (a := ⟨P, 0, none⟩) e).trans (HV2.out.free 0)⟩)
          rw [show s'.X.length = xl by omega] at HRB ⊢
          clear V2 hxl hxs hlook c4 ck cf ct d0 d1
          go_wp2_with (at_builtin; refine wpList_append_own_at _ rfl (.tmp 75) (.tmp 78) 23 rfl W.heap.size 42 i4 _ 7 112 Tryz.underlying23 hi4 hz0 hz1 hz2 zc7 (by decide) _ xl (ndL X2) rfl (HR3.out.alloc _) ⟨w2.heap.size, 0, none⟩ 1 1 (ndC ⟨Nd.leaf 8 [] (-1, -1), nil0⟩) rfl rfl (Ty.cells_new _ _ rfl) (one7 _ (fun _ => rfl)) (by unfold maxLen; omega) (by omega) (by simp; omega) ?_; intro v' w6 hown6 hg6 hnil6 hl6; obtain ⟨c6, f6⟩ := HTB.out _ _ (by rw [← HXL.out]; exact hg6); obtain ⟨vA, vc, rfl, _⟩ := (Rr.of_own hown6).shape; clear hnil6)
          have HD := Lib.hid (VP.push (e := s.a) HV2.out (Nat.le_refl _) (by rw [← HXL.out]; exact hg6) (by rw [← HXL.out]; exact hown6) (by rw [← HXL.out]; exact hl6) (show s.a = (s'.hang t' q (f0, t0)).a from HTT.out.2.symm))
          clear hown6 hg6 hl6
          have N : Hid (VP G1 W (w6.setCell ⟨P, 0, none⟩ (.slice vA (xl + 1) vc)) B P M S (s'.hang t' q (f0, t0)).open_ (.slice vA (xl + 1) vc) 0 0 (labS lab2 (.slice vA (xl + 1) vc) .nd) (X2 ++ [⟨Nd.leaf 8 [] (-1, -1), nil0⟩]) 0 (b + (i + 1))) := Lib.hid (by
            have h1 := HD.out
            rw [show (s'.hang t' q (f0, t0)).push (Nd.leaf 8 [] (-1, -1)) s.a = (s'.hang t' q (f0, t0)).open_ by rw [HTT.out.2.symm]; rfl] at h1
            exact h1)
          go_roundw
          case rel => exact ⟨i + 1, xl, _, _, _, _, rfl, by go_num, by have := HLT.out; omega, hX6, N, Lib.hid (by rw [HRB.out]; congr 1), Lib.hid ⟨by have := HXS.out; have := HXL.out; show xl < ((s'.hang t' q (f0, t0)).X ++ [_]).length; rw [List.length_append, show (s'.hang t' q (f0, t0)).X.length = s'.X.length from List.length_modify ..]; simp; omega, HTT.out.2⟩⟩
          case measure => have := HLT.out; simp [intOf]; omega
      | some n =>
        have hnX : n < s'.X.length := by
          obtain ⟨y, hy, e⟩ := lk_mem hlk
          have := HV.out.ok.nm y hy
          omega
        have hnX' : n < X'.length := by rw [HV.out.xlen]; exact hnX
        obtain ⟨x, hxn⟩ : ∃ x, X'[n]? = some x := ⟨_, List.getElem?_eq_getElem hnX'⟩
        have hxs : s'.X[n]? = some x.nd := by rw [← HV.out.nds, List.getElem?_map, hxn]; rfl
        obtain ⟨g, c, et, _, _, _, _, _, hcells⟩ := HV.out.nt.shape (by omega)
        have c0 := HV.out.cells.1
        rw [et] at c0
        have z5 := hcells n x hxn 5 _ rfl
        obtain ⟨xl, hxl⟩ : ∃ xl, xl = X'.length := ⟨_, rfl⟩
        rw [← hxl] at c0 hnX'
        have hX6 : xl ≤ 1000000 := by have := HV.out.ok.len; have := HV.out.xlen; omega
        have HNX := Lib.hid hnX
        obtain ⟨sg, hsg⟩ : ∃ sg, sg = x.nd.span.1 := ⟨_, rfl⟩
        rw [← hsg] at z5
        rw [hlk] at hlook
        simp only [Option.getD_some, Option.isSome_some] at hlook
        by_cases hs0 : 0 ≤ sg
        · have HRB := Lib.hid (show R = .bad 5 f0 by rw [HST.out, hlk]; show (match s'.X[n]? with | none => _ | some x => _) = _; rw [hxs]; exact if_pos (by rw [← hsg]; exact hs0))
          have HF := Lib.hid (fail_any (c := 5) (k := f0) HV.out (y1 := 5) (y2 := (f0 : Nat)) rfl rfl)
          clear hlk hnX hxn hxs et hcells hxl hsg
          go_wp2_with fail
          refine HF.out.mono ?_
          rintro e w2 ⟨rfl, V2⟩
          go_wp2_with fail
          go_ret
          rw [HRB.out]
          exact ⟨rfl, V2.bad.less HGS.out⟩
        · have HRB := Lib.hid (show R = lead (k.drop (i + 1)) n (ar + i + 1) s' by rw [HST.out, hlk]; show (match s'.X[n]? with | none => _ | some x => _) = _; rw [hxs]; exact if_neg (by rw [← hsg]; exact hs0))
          have N := Lib.hid (HV.out.mono (show b + i ≤ b + (i + 1) by omega))
          clear hlk hnX hxn hxs et hcells hxl hsg
          go_wp2_with fail
          go_roundw
          case rel => exact ⟨i + 1, n, _, _, _, _, rfl, by go_num, by have := HLT.out; omega, by omega, N, Lib.hid (by rw [HRB.out]; congr 1), Lib.hid ⟨HNX.out, HTT.out.2⟩⟩
          case measure => have := HLT.out; simp [intOf]; omega
    · obtain rfl : i = L := by omega
      have HST := Lib.hid (HRR.out.trans (lead_last HX.out HL.out))
      have hlook := fun n => (HV.out.dn n).lookR ht6 (by have := HQL.out; omega) HQ.out
      cases hlk : lk s'.m (t', q) with
      | some n =>
        have HRB := Lib.hid (show R = .bad 5 f0 by rw [HST.out, hlk])
        rw [hlk] at hlook
        simp only [Option.getD_some, Option.isSome_some] at hlook
        have HF := Lib.hid (fun (wx : World) (hb : Below wr.heap.size wr wx) => fail_any (c := 5) (k := f0) (HV.out.on hb) (y1 := 5) (y2 := (f0 : Nat)) rfl rfl)
        clear hlk
        go_upto_region 15 with fail
        go_quiet (fail)
        go_wp2_with fail
        refine (HF.out _ (bdn (Below.refl _ _) _)).mono ?_
        rintro e w2 ⟨rfl, V2⟩
        go_wp2_with fail
        go_ret
        rw [HRB.out]
        exact ⟨rfl, V2.bad.less HGS.out⟩
      | none =>
        have HRB := Lib.hid (show R = .ok (s'.hang t' q (f0, t0)) by rw [HST.out, hlk])
        rw [hlk] at hlook
        simp only [Option.getD_none, Option.isSome_none] at hlook
        have HH := Lib.hid (fun (wx : World) (hb : Below wr.heap.size wr wx) => hang_any (HV.out.on hb) HTT.out.1 (by omega) HQL.out HQ.out (y := (t' : Nat)) rfl f0 t0)
        clear hlk
        go_upto_region 15 with fail
        go_quiet (fail)
        go_upto_region 18 with fail
        go_region_with (go_at_call 139; refine (HH.out _ (by first | exact bdn (Below.refl _ _) _ | exact (bdn (Below.refl _ _) _).drew)).mono ?_; rintro e w2 ⟨rfl, tv2, lab2, X2, V2⟩)
        all_goals
          go_wp2_with fail
          go_ret
          rw [HRB.out]
          exact ⟨rfl, HTT.out.2, _, _, _, V2.less HGS.out⟩
end
end Tv
end Go.Proofs.YtbeefjhcbphiaaaGreatDoor
