/- What landed: Parse. -/
import Derived.Test.YtggeiajbcehkjaaGreatDoorGav
namespace Go.Proofs.YtggeiajbcehkjaaGreatDoor
open Go.RowKit
namespace Jt
/-- A tree's nodes, to read. -/
structure Tr (w : World) (base : Nat) (lab : Nat → Own) (v : Value) (X : List Nx) : Prop where
  row : Rr w base 59 7 v X.length (ndL X)
  l : ∀ b, v.ownBlock = some b → lab b = .nd
  e : ∀ i x, X[i]? = some x → ∀ j, j < 3 → Rr w base (ety j) (esz j) (x.v j) (ecn x.nd j) (ecs x.nd j) ∧ ∀ b, (x.v j).ownBlock = some b → lab b = .fld j i
theorem Tr.keep {w w' : World} {base : Nat} {lab : Nat → Own} {v : Value} {X : List Nx} (h : Tr w base lab v X) (hb : ∀ k, base ≤ k → k < w.heap.size → w'.heap[k]? = w.heap[k]?) : Tr w' base lab v X :=
  ⟨h.row.keep fun k hk => hb k (h.row.lt k hk).1 (h.row.lt k hk).2, h.l, fun i x hx j hj => ⟨(h.e i x hx j hj).1.keep fun k hk => hb k ((h.e i x hx j hj).1.lt k hk).1 ((h.e i x hx j hj).1.lt k hk).2, (h.e i x hx j hj).2⟩⟩
theorem Tr.below {w w' : World} {base B : Nat} {lab : Nat → Own} {v : Value} {X : List Nx} (h : Tr w base lab v X) (hb : Below B w w') (hB : w.heap.size ≤ B) : Tr w' base lab v X := h.keep fun k _ hk => hb.block k (by omega)
theorem Tr.clip {w : World} {base : Nat} {lab : Nat → Own} {v : Value} {X : List Nx} (h : Tr w base lab v X) : Tr w base lab (clipV v) X := ⟨h.row.clip, fun b hb => h.l b (by rw [← clip_block]; exact hb), h.e⟩
theorem NT.tr {w : World} {base : Nat} {lab : Nat → Own} {op : Nat → Prop} {v : Value} {X : List Nx} (h : NT w base lab op v X) : Tr w base lab v X := ⟨Rr.of_own h.row, h.l, fun i x hx j hj => ⟨(h.e i x hx j hj).r, (h.e i x hx j hj).l⟩⟩
/-- A document's nodes, or its first fault. -/
def parseR (l : Bs) : NR := if U8.chkOk l = true then docP (envL l (0, 0)) (Jk.tks l 0).2 (Jk.tks l 0).1 else .bad 2 (U8.scn l)
/-- What Parse leaves. -/
def ParseL (w : World) (l : Bs) (e : Ending) (w' : World) : Prop :=
  Below w.heap.size w w' ∧ match parseR l with
  | .bad c a => e = .returned (.tuple #[.agg #[.slice none 0 0, .int .i64 0], .agg #[.int .i64 (c : Nat), .int .i64 (a : Nat)]])
  | .ok nd => ∃ A n lab X, e = .returned (.tuple #[.agg #[.slice A n n, .int .i64 0], .agg #[.int .i64 0, .int .i64 0]]) ∧ Tr w' w.heap.size lab (.slice A n n) X ∧ X.map Nx.nd = nd
/-- The tables that the code reads, in whatever world. -/
structure Tabs0 (w : World) : Prop where
  tab : De.Tab w
  heads : Heads w
  shorts : jShorts w
  z : 3 < w.heap.size
theorem Tabs0.below {w w' : World} (h : Tabs0 w) (hb : Below w.heap.size w w') : Tabs0 w' := by
  have := (show Tabs w.heap.size w from ⟨h.tab, h.heads, h.shorts, h.z, Nat.le_refl _⟩).below hb
  exact ⟨this.tab, this.heads, this.shorts, Nat.lt_of_lt_of_le h.z hb.size⟩
/-- A fault goes through the door. -/
theorem door_bad {w w9 : World} {l : Bs} {c a : Nat} {chain : List PanicEntry} {tmps : Array Value} (hb : Below (w.heap.size + 2) ((w.alloc (.cells #[.slice none 0 0, .int .i64 0] 24)).alloc (.cells #[.int .i64 0, .int .i64 0] 63)) w9)
    (hr : parseR l = .bad c a) (hc : chain = [{ v := FV (c : Nat) (a : Nat), recovered := false }]) (h2 : tmps[2]? = some (.pointer (some ⟨w.heap.size, 0, none⟩))) (h3 : tmps[3]? = some (.pointer (some ⟨w.heap.size + 1, 0, none⟩))) :
    Leaves Tryz.prog Tryz.f50 tmps (ParseL w l) [{ target := Target.fn (Fn.func 73) #[.pointer (some ⟨w.heap.size + 1, 0, none⟩)], args := #[] }] (.panicking chain) w9 := by
  obtain ⟨w2, hw2⟩ : ∃ w2, w2 = (w.alloc (.cells #[.slice none 0 0, .int .i64 0] 24)).alloc (.cells #[.int .i64 0, .int .i64 0] 63) := ⟨_, rfl⟩
  rw [← hw2] at hb
  have k := fun (b j : Nat) (hbz : b < w.heap.size + 2) => hb.cell (p := ⟨b, j, none⟩) hbz
  have kf := fun (b j : Nat) (hbz : b < w.heap.size + 2) => hb.frozen (p := ⟨b, j, none⟩) hbz
  have t0 : w9.cell? ⟨w.heap.size, 0, none⟩ = some (.slice none 0 0) := (k _ 0 (by omega)).trans (by rw [hw2]; simp [go_sem])
  have t1 : w9.cell? ⟨w.heap.size, 1, none⟩ = some (.int .i64 0) := (k _ 1 (by omega)).trans (by rw [hw2]; simp [go_sem])
  have f0 : w9.cell? ⟨w.heap.size + 1, 0, none⟩ = some (.int .i64 0) := (k _ 0 (by omega)).trans (by rw [hw2]; simp [go_sem])
  have f1 : w9.cell? ⟨w.heap.size + 1, 1, none⟩ = some (.int .i64 0) := (k _ 1 (by omega)).trans (by rw [hw2]; simp [go_sem])
  have z0 : w9.frozen? ⟨w.heap.size + 1, 0, none⟩ = false := (kf _ 0 (by omega)).trans (by rw [hw2]; simp [go_sem])
  have z1 : w9.frozen? ⟨w.heap.size + 1, 1, none⟩ = false := (kf _ 1 (by omega)).trans (by rw [hw2]; simp [go_sem])
  have hb2 : Below w.heap.size w w2 := by rw [hw2]; exact ((Below.refl _ _).alloc (Nat.le_refl _) _).alloc (by simp) _
  have hbw : Below w.heap.size w w9 := hb2.trans (hb.mono (by omega))
  clear hw2 k kf hb
  subst hc
  refine leaves_cons (f := 73) (args := #[.pointer (some ⟨w.heap.size + 1, 0, none⟩)]) (by simp) (by simp [go_sem]) ?_
  refine (catch_panicking (c : Nat) (a : Nat) [] _ f0 f1 z0 z1).mono ?_
  rintro e u' w'' ⟨rfl, rfl, rfl⟩
  refine ⟨.tuple #[.agg #[.slice none 0 0, .int .i64 0], .agg #[.int .i64 (c : Nat), .int .i64 (a : Nat)]], ?_, ?_⟩
  · simp [results, Tryz.results50, go_sem, h2, h3, t0, t1, f0, f1]
  · unfold ParseL
    rw [hr]
    exact ⟨(hbw.setCell (p := ⟨w.heap.size + 1, 0, none⟩) (by simp) _).setCell (p := ⟨w.heap.size + 1, 1, none⟩) (by simp) _, rfl⟩
set_option maxRecDepth 100000 in
set_option maxHeartbeats 8000000 in
theorem parse_any {l : List UInt8} {B N C : Nat} {A : Option Addr} {w : World} (hn : N = l.length) (hnc : N ≤ C) (hA : Byt w B A l) (hB : B ≤ w.heap.size) (hm : C ≤ maxLen) (hs : N ≤ 1000000) (hT : Tabs0 w) :
    Calls Tryz.prog 50 #[.slice A N C] w (ParseL w l) := by
  have hmf : ∀ (fn : Fn) (first cap : Array Value) (w : World), (Instr.makeFunc fn first cap).run Tryz.prog w = .ok (.func fn first cap) w := fun _ _ _ _ => rfl
  obtain ⟨w2, hw2⟩ : ∃ w2, w2 = (w.alloc (.cells #[.slice none 0 0, .int .i64 0] 24)).alloc (.cells #[.int .i64 0, .int .i64 0] 63) := ⟨_, rfl⟩
  have hb2 : Below w.heap.size w w2 := by rw [hw2]; exact ((Below.refl _ _).alloc (Nat.le_refl _) _).alloc (by simp) _
  have hz2 : w2.heap.size = w.heap.size + 2 := by rw [hw2]; simp
  have hr : parseR l = if U8.chkOk l = true then docP (envL l (0, 0)) (Jk.tks l 0).2 (Jk.tks l 0).1 else .bad 2 (U8.scn l) := rfl
  have HN := Lib.hid hn
  have HA := Lib.hid hA
  have HTB := Lib.hid hT
  have HC := Lib.hid (And.intro hnc hm)
  have HBB := Lib.hid hB
  have HB2 := Lib.hid hb2
  have HZ2 := Lib.hid hz2
  have HR := Lib.hid hr
  have hP2 : Below (w.heap.size + 2) w2 w2 := Below.refl _ _
  have hCs : ∀ {P : Nat} {wx : World}, Below w.heap.size w wx → P = w.heap.size + 2 → P ≤ wx.heap.size → Txt wx P A N C l ∧ Tabs P wx := fun {P wx} hb hP hPs => by
    have h1 := hT.below hb
    exact ⟨⟨(hA.below (hb.mono hB)).more (by omega), hn, hnc, hm, hs⟩, ⟨h1.tab, h1.heads, h1.shorts, by have := hT.z; omega, hPs⟩⟩
  by_cases hk : U8.chkOk l = true
  · have hR := Lib.hid (hr.trans (if_pos hk))
    have CC := Lib.hid (check_ok (l := l) (A := A) (B := w.heap.size) N C (w := w2) hn hnc ((hA.more hB).below hb2) hm hs hk)
    obtain ⟨W3, hW3⟩ : ∃ W3, W3 = w2.alloc (.cells #[.slice A N C, .int .u8 1, .slice none 0 0, .slice none 0 0] 103) := ⟨_, rfl⟩
    have hb3 : Below w2.heap.size w2 W3 := by rw [hW3]; exact (Below.refl _ _).alloc (Nat.le_refl _) _
    have hms : MS W3 w2.heap.size (.slice A N C) ⟨1, [], []⟩ := by
      refine ⟨fun _ => .no, fun _ => False, fun _ => 0, fun _ => [], .slice none 0 0, .slice none 0 0, [], ⟨?_, NT.start, World.ownsRow_nil _ _ _ _, fun b h => (by cases h), fun p h => (by cases h), fun a h => (by cases h)⟩, rfl, fun a h => (by cases h)⟩
      rw [hW3]; exact heap_alloc_new _ _
    have hbw3 := Jk.below_tr hb2 hb3
    obtain ⟨hT1, hT2⟩ := hCs hbw3 hz2 (by rw [hW3]; simp)
    have CD := Lib.hid (document_any (E := envL l (0, 0)) rfl hms hT1 hT2)
    obtain ⟨r, hrr⟩ : ∃ r, r = docP (envL l (0, 0)) (Jk.tks l 0).2 (Jk.tks l 0).1 := ⟨_, rfl⟩
    rw [← hrr] at CD hR
    rw [hz2] at CD
    have HB3 := Lib.hid hb3
    have HBW3 := Lib.hid hbw3
    have HP2 := Lib.hid hP2
    clear hn hnc hA hB hm hs hT hb2 hr hk hms hb3 hbw3 hT1 hT2 hCs hrr hP2
    go_enter_defers Tryz.func50, Tryz.ntmps50
    go_wp2_with fail
    rw [← hw2]
    refine CC.out.mono ?_
    rintro e wx ⟨rfl, hwx⟩
    rw [← hwx]
    clear hwx
    have HW2 := Lib.hid hw2
    clear hw2
    go_wp2_with fail
    rw [← hW3]
    refine CD.out.mono ?_
    rintro e w5 ⟨hb5, h5⟩
    have HB5 := Lib.hid (show Below (w.heap.size + 2) w2 w5 from by have h := HB3.out; rw [HZ2.out] at h; exact h.trans hb5)
    clear CC CD hW3 hb5
    cases r with
    | bad c a =>
      obtain rfl := h5
      rw [HW2.out] at HB5
      exact door_bad HB5.out hR.out rfl rfl rfl
    | ok nd =>
      obtain ⟨rfl, s, hs, lab, op, mb, ks, sv, nv, X, hM, hX, _⟩ := h5
      have HM := Lib.hid hM
      have HX := Lib.hid (hX.trans hs)
      obtain ⟨nA, nc, env, hnc, hnc6, hnn⟩ := (Rr.of_own hM.nt.row).shape
      subst env
      obtain ⟨xl, hxl⟩ : ∃ xl, xl = X.length := ⟨_, rfl⟩
      have HXL := Lib.hid hxl
      have CLP := Lib.hid (fun w => clip_node (A := nA) (N := xl) (c := nc) w (by rw [hxl]; exact hnc) hnc6 hnn)
      have k := fun (b j : Nat) (hbz : b < w.heap.size + 2) => HB5.out.cell (p := ⟨b, j, none⟩) hbz
      have kf := fun (b j : Nat) (hbz : b < w.heap.size + 2) => HB5.out.frozen (p := ⟨b, j, none⟩) hbz
      have t0 : w5.cell? ⟨w.heap.size, 0, none⟩ = some (.slice none 0 0) := (k _ 0 (by omega)).trans (by rw [HW2.out]; simp [go_sem])
      have t1 : w5.cell? ⟨w.heap.size, 1, none⟩ = some (.int .i64 0) := (k _ 1 (by omega)).trans (by rw [HW2.out]; simp [go_sem])
      have f0 : w5.cell? ⟨w.heap.size + 1, 0, none⟩ = some (.int .i64 0) := (k _ 0 (by omega)).trans (by rw [HW2.out]; simp [go_sem])
      have f1 : w5.cell? ⟨w.heap.size + 1, 1, none⟩ = some (.int .i64 0) := (k _ 1 (by omega)).trans (by rw [HW2.out]; simp [go_sem])
      have y0 : w5.frozen? ⟨w.heap.size, 0, none⟩ = false := (kf _ 0 (by omega)).trans (by rw [HW2.out]; simp [go_sem])
      have y1 : w5.frozen? ⟨w.heap.size, 1, none⟩ = false := (kf _ 1 (by omega)).trans (by rw [HW2.out]; simp [go_sem])
      have z0 : w5.frozen? ⟨w.heap.size + 1, 0, none⟩ = false := (kf _ 0 (by omega)).trans (by rw [HW2.out]; simp [go_sem])
      have z1 : w5.frozen? ⟨w.heap.size + 1, 1, none⟩ = false := (kf _ 1 (by omega)).trans (by rw [HW2.out]; simp [go_sem])
      have c3 := hM.po.cells.2.2.2
      rw [← hxl] at c3
      clear hM hX hs hxl hnc hnc6 hnn k kf
      go_wp2_with fail
      refine (CLP.out _).mono ?_
      rintro e w6 ⟨rfl, hw6⟩
      rw [← hw6]
      clear hw6
      go_wp2_with fail
      have hwb : Below w.heap.size w w5 := HB2.out.trans (HB5.out.mono (by omega))
      have HWB := Lib.hid hwb
      obtain ⟨w9, hw9⟩ : ∃ w9, w9 = (((w5.setCell ⟨w.heap.size, 0, none⟩ (.slice nA xl xl)).setCell ⟨w.heap.size, 1, none⟩ (.int .i64 0)).setCell ⟨w.heap.size + 1, 0, none⟩ (.int .i64 0)).setCell ⟨w.heap.size + 1, 1, none⟩ (.int .i64 0) := ⟨_, rfl⟩
      have r0 : w9.cell? ⟨w.heap.size, 0, none⟩ = some (.slice nA xl xl) := by rw [hw9]; simp [go_sem, t0]
      have r1 : w9.cell? ⟨w.heap.size, 1, none⟩ = some (.int .i64 0) := by rw [hw9]; simp [go_sem, t1]
      have r2 : w9.cell? ⟨w.heap.size + 1, 0, none⟩ = some (.int .i64 0) := by rw [hw9]; simp [go_sem, f0]
      have r3 : w9.cell? ⟨w.heap.size + 1, 1, none⟩ = some (.int .i64 0) := by rw [hw9]; simp [go_sem, f1]
      have hb9 : Below w.heap.size w w9 := by
        rw [hw9]
        exact (((hwb.setCell (p := ⟨w.heap.size, 0, none⟩) (Nat.le_refl _) _).setCell (p := ⟨w.heap.size, 1, none⟩) (Nat.le_refl _) _).setCell (p := ⟨w.heap.size + 1, 0, none⟩) (Nat.le_succ _) _).setCell (p := ⟨w.heap.size + 1, 1, none⟩) (Nat.le_succ _) _
      have hk9 : ∀ b, w.heap.size + 2 ≤ b → w9.heap[b]? = w5.heap[b]? := fun b hb => by
        rw [hw9, heap_setCell_other _ _ _ _ (show b ≠ w.heap.size + 1 by omega), heap_setCell_other _ _ _ _ (show b ≠ w.heap.size + 1 by omega), heap_setCell_other _ _ _ _ (show b ≠ w.heap.size by omega), heap_setCell_other _ _ _ _ (show b ≠ w.heap.size by omega)]
      rw [← hw9]
      refine leaves_cons (f := 73) (args := #[.pointer (some ⟨w.heap.size + 1, 0, none⟩)]) (by simp) (by simp [go_sem]) ?_
      refine (catch_idle ⟨w.heap.size + 1, 0, none⟩ _).mono ?_
      rintro e u' w'' ⟨rfl, rfl, rfl⟩
      refine ⟨.tuple #[.agg #[.slice nA xl xl, .int .i64 0], .agg #[.int .i64 0, .int .i64 0]], ?_, ?_⟩
      · simp [results, Tryz.results50, go_sem, r0, r1, r2, r3]
      · unfold ParseL
        rw [hR.out]
        refine ⟨hb9, nA, xl, lab, X, rfl, ?_, HX.out⟩
        have h1 := (HM.out.nt.tr.keep (fun k hk _ => hk9 k (by omega))).clip
        rw [← HXL.out] at h1
        exact ⟨⟨h1.row.1, by
          rcases h1.row.2 with h | ⟨g, cap, cur, e, hb, r⟩
          · exact .inl h
          · exact .inr ⟨g, cap, cur, e, by omega, r⟩⟩, h1.l, fun i x hx j hj => ⟨⟨(h1.e i x hx j hj).1.1, by
          rcases (h1.e i x hx j hj).1.2 with h | ⟨g, cap, cur, e, hb, r⟩
          · exact .inl h
          · exact .inr ⟨g, cap, cur, e, by omega, r⟩⟩, (h1.e i x hx j hj).2⟩⟩
  · have hR := Lib.hid (hr.trans (if_neg hk))
    have hcf : U8.chkOk l = false := by simpa using hk
    have hat : U8.chkAt l = ((U8.scn l : Nat) : Int) := by
      unfold U8.chkOk at hcf
      unfold U8.chkAt
      rw [if_neg (of_decide_eq_false hcf)]
    have CC := Lib.hid (check_bad (l := l) (A := A) (B := w.heap.size) N C (w := w2) hn hnc ((hA.more hB).below hb2) hm hs hcf)
    rw [hat] at CC
    have HP2 := Lib.hid hP2
    clear hn hnc hA hB hm hs hT hb2 hr hk hcf hat hCs hP2
    go_enter_defers Tryz.func50, Tryz.ntmps50
    go_wp2_with fail
    rw [← hw2]
    refine CC.out.mono ?_
    rintro e wx ⟨rfl, hwx⟩
    rw [← hwx]
    have hq := HP2.out
    rw [hw2] at hq ⊢
    exact door_bad hq hR.out rfl rfl rfl
end Jt
end Go.Proofs.YtggeiajbcehkjaaGreatDoor
