/- The reader over a string. -/
import Derived.Test.YtbeefjhcbphiaaaGreatDoorHq
import Derived.Deep.CutRange
import Derived.Deep.QuietTactic
import Derived.BigQuiet
import Derived.Deep.Quiet
namespace Go.Proofs.YtbeefjhcbphiaaaGreatDoor
open Go.RowKit
namespace Tv
open Ty (WR1 KR Ky Bs blK endP endP_on endP_no endP_far)

section
variable {G : List (Nat × Obj)} {W w w' : World} {B P M : Nat} {S : ByteArray} {s : St} {tv : Value} {lab : Nat → Own} {X : List Nx} {p b : Nat} {E : Env}
set_option maxHeartbeats 16000000 in
set_option maxRecDepth 100000 in
theorem quoted_any (H : EnvC W B E S) (h : VP G W w B P M S s tv 0 0 lab X p b) (hp : p ≤ 1) (hb : b ≤ s.a) (ha : s.a ≤ E.l.length) (hq : bt E.l s.a = 34 ∨ bt E.l s.a = 39) (ar : Int) :
    Calls Tryz.prog 74 #[.pointer (some ⟨P, 0, none⟩), .int .i64 ar] w (VOut G W B P M S E.l.length s.a (quo E s)) := by
  obtain ⟨_, _, c2, c3, _⟩ := h.cells
  have hP := h.plt
  have c2' : ∀ o, (w.alloc o).cell? ⟨P, 2, none⟩ = _ := fun o => (World.cell?_alloc_lt _ _ _ hP).trans c2
  have c3' : ∀ o, (w.alloc o).cell? ⟨P, 3, none⟩ = _ := fun o => (World.cell?_alloc_lt _ _ _ hP).trans c3
  have HV := Lib.hid h
  have hl5 := H.hl
  obtain ⟨T, N, C, K, hv, HC⟩ : ∃ (T : ByteArray) (N C K : Nat), Ty.wrv (E.sd s.a) = .tuple #[.string T, .int .i64 (N : Nat), .agg #[.int .i64 (C : Nat), .int .i64 (K : Nat)]] ∧ Hid ((C = 0 ∧ ∃ t, T = txt t ∧ E.sd s.a = .ok t N ∧ s.a < N ∧ N ≤ E.l.length) ∨ (C ≠ 0 ∧ E.sd s.a = .bad C K)) := by
    cases hsd : E.sd s.a with
    | ok t e =>
      obtain ⟨q1, q2⟩ := H.strOk _ _ _ ha hsd
      exact ⟨txt t, e, 0, 0, rfl, Lib.hid (.inl ⟨rfl, t, rfl, rfl, q1, q2⟩)⟩
    | bad c a => exact ⟨⟨#[]⟩, 0, c, a, rfl, Lib.hid (.inr ⟨H.strBad _ _ _ hsd, rfl⟩)⟩
  have CR := Lib.hid (fun (wx : World) (hb : Below w.heap.size w wx) => show Calls Tryz.prog 101 #[.string S, .int .i64 (s.a : Nat)] wx fun e w' => e = .returned (.tuple #[.string T, .int .i64 (N : Nat), .agg #[.int .i64 (C : Nat), .int .i64 (K : Nat)]]) ∧ Below wx.heap.size wx w' from by
    have := H.str s.a ha hq wx (h.bel hb)
    rw [hv] at this; exact this)
  have HB := Lib.hid (And.intro hp hb)
  clear h hv H hq
  go_enter Tryz.func74, Tryz.ntmps74
  go_upto_region 1 with fail
  go_cut [5, 6, 7] from 5 to 20 (fun s5 s6 s7 wx => s5 = .string T ∧ s6 = .int .i64 (N : Nat) ∧ ∃ q, s7 = .pointer (some ⟨q, 0, none⟩) ∧ Hid (Below w.heap.size w wx ∧ wx.heap[q]? = some (fvO (C : Nat) (K : Nat))))
  case first =>
    go_region_with (go_at_call 101; refine (CR.out _ (by first | exact (Below.refl _ _).drew | exact (bal (Below.refl _ _) _).drew | exact bal (Below.refl _ _) _ | exact Below.refl _ _)).mono ?_; rintro en w9 ⟨rfl, hb⟩; (try have zz : w9.frozen? ⟨w.heap.size, 0, none⟩ = false ∧ w9.frozen? ⟨w.heap.size, 1, none⟩ = false ∧ w9.cell? ⟨w.heap.size, 0, none⟩ = some (.int .i64 0) ∧ w9.cell? ⟨w.heap.size, 1, none⟩ = some (.int .i64 0) := froz hb); (try obtain ⟨z5, z6, z7, z8⟩ := zz))
    all_goals
      go_wp2_with fail
      go_meet
      first
        | exact ⟨rfl, rfl, w.heap.size, rfl, Lib.hid (frozS (V := w) hb)⟩
        | exact ⟨rfl, rfl, w9.heap.size, rfl, Lib.hid (allocS (V := w) hb)⟩
  case rest =>
    obtain ⟨rfl, rfl, q, rfl, HQ⟩ := hcut
    have HV1 := Lib.hid (HV.out.on HQ.out.1)
    have hq := HQ.out.2
    have f0 : wc.cell? ⟨q, 0, none⟩ = some (.int .i64 (C : Nat)) := by simp [World.cell?, hq]
    have f1 : wc.cell? ⟨q, 1, none⟩ = some (.int .i64 (K : Nat)) := by simp [World.cell?, hq]
    clear hq HQ
    rcases HC.out with ⟨rfl, t, hT, hsd, q1, q2⟩ | ⟨hC0, hsd⟩
    · have HA := Lib.hid (add_any (e := N) HV1.out HB.out.1 (by have := HB.out.2; omega) (kd := 3) hT (yk := 3) rfl (ye := (N : Nat)) rfl)
      have HQQ := Lib.hid (show quo E s = .ok (s.push (Nd.leaf 3 t (s.a, N)) N) by unfold quo; rw [hsd])
      have HQ1 := Lib.hid (And.intro q1 q2)
      clear hT hsd q1 q2
      go_wp2_with fail
      refine HA.out.mono ?_
      rintro e w2 ⟨rfl, V2⟩
      go_wp2_with fail
      go_ret
      rw [HQQ.out]
      exact ⟨rfl, V2.mono (by have := HB.out.2; have := HQ1.out.1; show b + 1 ≤ N; omega), HQ1.out.1, HQ1.out.2⟩
    · have HF := Lib.hid (fail_any (c := C) (k := K) HV1.out (y1 := (C : Nat)) (y2 := (K : Nat)) rfl rfl)
      have HQQ := Lib.hid (show quo E s = .bad C K by unfold quo; rw [hsd])
      have hCI : ¬ ((C : Nat) : Int) = 0 := by omega
      clear hC0 hsd
      go_wp2_with fail
      refine HF.out.mono ?_
      rintro e w2 ⟨rfl, V2⟩
      go_wp2_with fail
      go_ret
      rw [HQQ.out]
      exact ⟨rfl, V2.bad⟩
end
end Tv
end Go.Proofs.YtbeefjhcbphiaaaGreatDoor
/- The reader over what begins with no mark. -/
namespace Go.Proofs.YtbeefjhcbphiaaaGreatDoor
open Go.RowKit
namespace Tv
open Ty (WR1 KR Ky Bs blK endP endP_on endP_no endP_far)

section
variable {P : Program} {ops : Array Oper} {C : World → Prop}
/-- A region that draws its order: one walk, in the order of the text, over worlds of a class of one's own. -/
theorem reg_lit {id : Nat} {Q : Exit → Act → World → Prop} {a : Act} {w : World} {l : List Oper} (hm : P.follows .mixedOrders = true) (hB : Region.lexB .any l.toArray = true) (hC : C w.drew)
    (h : wpQuiet P l.toArray C (fun a' => ∀ w', C w' → Q .normal a' w') l a) : (Code.region id l.toArray true).wp P Q a w := wp_region_quiet hm hB hC (by simpa using h)
end
/-- The worlds in which nothing that was there has turned. -/
structure Kept (w : World) where
  wx : World
  held : Below w.heap.size w wx
instance (w : World) : Nonempty (Kept w) := ⟨⟨w, Below.refl _ _⟩⟩
theorem Kept.out {w : World} {v : Value} {s : Kept w} {w' : World} (h : Below s.wx.heap.size s.wx w') : Ending.returned v = Ending.returned v ∧ ∃ t : Kept w, w' = t.wx := ⟨rfl, ⟨w', below_tr s.held h⟩, rfl⟩
theorem Kept.cell {w : World} (s : Kept w) {p : Addr} {v : Value} (h : w.cell? p = some v) : s.wx.cell? p = some v := (s.held.cell (World.block_lt_of_cell? w p h)).trans h
section
variable {G : List (Nat × Obj)} {W w w' : World} {B P M : Nat} {S : ByteArray} {s : St} {tv : Value} {lab : Nat → Own} {X : List Nx} {p b : Nat} {E : Env}
set_option maxHeartbeats 16000000 in
set_option maxRecDepth 100000 in
theorem bare_r (H : EnvC W B E S) (h : VP G W w B P M S s tv 0 0 lab X p b) (hp : p ≤ 1) (hb : b ≤ s.a) (ha : s.a ≤ E.l.length) (ar : Int) :
    Calls Tryz.prog 77 #[.pointer (some ⟨P, 0, none⟩), .int .i64 ar] w (VOut G W B P M S E.l.length s.a (bare E s)) := by
  obtain ⟨_, _, c2, c3, _⟩ := h.cells
  have HV := Lib.hid h
  have hl5 := H.hl
  obtain ⟨T, hT⟩ : ∃ T, T = E.tk s.a := ⟨_, rfl⟩
  obtain ⟨k, hk⟩ : ∃ k, k = s.a := ⟨_, rfl⟩
  have htok := H.tokOk s.a ha
  have hsz : S.size = E.l.length := by rw [H.hs, txt_size]
  have hx : S.extract k S.size = txt (E.l.drop k) := by rw [H.hs, txt_cut, txt_size, List.take_length]
  have CR := Lib.hid (fun (wx : World) (hb : Below w.heap.size w wx) => show Calls Tryz.prog 110 #[.string (S.extract k S.size)] wx fun e w' => e = .returned (.tuple #[.int .u8 (T.kind : Nat), .string (txt T.text), .int .i64 (T.many : Nat), .int .i64 (T.code : Nat)]) ∧ Below wx.heap.size wx w' from by
    have := H.tok s.a ha wx (h.bel hb)
    rw [hx, hk, hT]; exact this)
  rw [← hT] at htok
  have HT := Lib.hid hT
  have HK := Lib.hid hk
  have hks : (k : Int) ≤ S.size := by omega
  have hS5 : S.size ≤ 50000 := by omega
  rw [← hk] at c3
  have HB := Lib.hid (And.intro hp hb)
  have HTK := Lib.hid htok
  have hm5 : T.many ≤ 50000 := by omega
  obtain ⟨TT, hTT⟩ : ∃ TT, TT = txt T.text := ⟨_, rfl⟩
  rw [← hTT] at CR
  obtain ⟨tk, tx, tm, tc⟩ := T
  have HTT := Lib.hid hTT
  simp only at CR hm5
  have K2 := fun s : Kept w => s.cell c2
  have K3 := fun s : Kept w => s.cell c3
  clear h H hT hk hx hTT htok c2 c3 hsz hl5
  go_enter Tryz.func77, Tryz.ntmps77
  go_upto_region 1 with fail
  refine reg_lit (C := fun wx => ∃ s : Kept w, wx = s.wx) (by kernel_rfl) (by kernel_rfl) ⟨⟨_, (Below.refl _ _).drew⟩, rfl⟩ ?_
  iterate 9 (go_big_quiet_step (fail))
  go_big_quiet_want
  go_big_quiet_op
  refine ⟨.tuple #[.int .u8 (tk : Nat), .string TT, .int .i64 (tm : Nat), .int .i64 (tc : Nat)], fun s => (CR.out s.wx s.held).mono ?_, ?_⟩
  · rintro e w3 ⟨rfl, hb⟩; exact Kept.out hb
  go_big_quiet_on
  iterate 9 (go_big_quiet_step (fail))
  refine wpQuiet_nil ?_
  rintro wc ⟨⟨wx, ox0⟩, e⟩
  have HQ : Hid (Below w.heap.size w wc) := Lib.hid (by rw [e]; exact ox0)
  clear e ox0 K2 K3
  have hv1 := HV.out.on HQ.out
  have c3 := hv1.cells.2.2.2.1
  rw [← HK.out] at c3
  have HV1 := Lib.hid hv1
  have HTE := Lib.hid HT.out.symm
  clear hv1
  by_cases hC : tc = 0
  · subst hC
    have HA := Lib.hid (add_any (e := s.a + tm) HV1.out HB.out.1 (by have := HB.out.2; have := HK.out; omega) (kd := tk) HTT.out (yk := (tk : Nat)) rfl (ye := (k : Int) + (tm : Int)) (by rw [HK.out]; omega))
    have HQQ := Lib.hid (show bare E s = .ok (s.push (Nd.leaf tk tx (s.a, ((s.a + tm : Nat) : Int))) (s.a + tm)) by unfold bare; rw [HTE.out]; rfl)
    go_wp2_with fail
    refine HA.out.mono ?_
    rintro e w2 ⟨rfl, V2⟩
    go_wp2_with fail
    go_ret
    rw [HQQ.out]
    have h1 := HTK.out.1
    have h2 := HTK.out.2 trivial
    exact ⟨rfl, V2.mono (by have := HB.out.2; show b + 1 ≤ s.a + tm; omega), by show s.a < s.a + tm; omega, by show s.a + tm ≤ _; exact h1⟩
  · have HF := Lib.hid (fail_any (c := tc) (k := s.a) HV1.out (y1 := (tc : Nat)) (y2 := (k : Nat)) rfl (by rw [HK.out]))
    have HQQ := Lib.hid (show bare E s = .bad tc s.a by unfold bare; rw [HTE.out]; exact if_neg hC)
    have hCI : ¬ ((tc : Nat) : Int) = 0 := by omega
    clear hC
    go_wp2_with fail
    refine HF.out.mono ?_
    rintro e w2 ⟨rfl, V2⟩
    go_wp2_with fail
    go_ret
    rw [HQQ.out]
    exact ⟨rfl, V2.bad⟩
end
end Tv
end Go.Proofs.YtbeefjhcbphiaaaGreatDoor
