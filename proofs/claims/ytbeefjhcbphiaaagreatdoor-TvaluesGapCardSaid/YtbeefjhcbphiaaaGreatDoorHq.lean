/- The reader over a gap; a node added; a list, a table, begun and ended. -/
import Derived.Test.YtbeefjhcbphiaaaGreatDoorHp
import Derived.BigRegion
import Derived.Deep.RegionHeld3
import Derived.Deep.RegionLaw
import Derived.Test.YtbeefjhcbphiaaaGreatDoorHe
namespace Go.Proofs.YtbeefjhcbphiaaaGreatDoor
open Go.RowKit
namespace Tv
open Ty (WR1 KR Ky Bs blK endP endP_on endP_no endP_far)

theorem bal {V wx : World} (h : Below V.heap.size V wx) (o : Obj) : Below V.heap.size V (wx.alloc o) := h.alloc h.size o
theorem froz {X w9 : World} (h : Below (X.alloc ftO).drew.heap.size (X.alloc ftO).drew w9) : w9.frozen? ⟨X.heap.size, 0, none⟩ = false ∧ w9.frozen? ⟨X.heap.size, 1, none⟩ = false ∧ w9.cell? ⟨X.heap.size, 0, none⟩ = some (.int .i64 0) ∧ w9.cell? ⟨X.heap.size, 1, none⟩ = some (.int .i64 0) := by
  have h1 : w9.heap[X.heap.size]? = some ftO := by rw [h.block _ (by show X.heap.size < (X.alloc ftO).heap.size; rw [alloc_size]; omega)]; exact heap_alloc_new _ _
  simp [World.frozen?, World.cell?, h1]
abbrev fvO (C K : Int) : Obj := .cells #[.int .i64 C, .int .i64 K] 28
theorem frozS {V w9 : World} {C K : Int} (h : Below (V.alloc ftO).drew.heap.size (V.alloc ftO).drew w9) :
    Below V.heap.size V ((w9.setCell ⟨V.heap.size, 0, none⟩ (.int .i64 C)).setCell ⟨V.heap.size, 1, none⟩ (.int .i64 K)) ∧ ((w9.setCell ⟨V.heap.size, 0, none⟩ (.int .i64 C)).setCell ⟨V.heap.size, 1, none⟩ (.int .i64 K)).heap[V.heap.size]? = some (fvO C K) := by
  have h1 : w9.heap[V.heap.size]? = some ftO := by rw [h.block _ (by show V.heap.size < (V.alloc ftO).heap.size; rw [alloc_size]; omega)]; exact heap_alloc_new _ _
  have h2 : Below V.heap.size V w9 := below_tr ((Below.refl _ _).alloc (Nat.le_refl _) ftO).drew h
  exact ⟨(h2.setCell (Nat.le_refl _) _).setCell (Nat.le_refl _) _, heap_setCell_same _ _ _ _ _ _ (heap_setCell_same _ _ _ _ _ _ h1)⟩
theorem allocS {V w9 : World} {C K : Int} (h : Below V.drew.heap.size V.drew w9) : Below V.heap.size V (w9.alloc (fvO C K)) ∧ (w9.alloc (fvO C K)).heap[w9.heap.size]? = some (fvO C K) := ⟨bal (below_tr (Below.refl _ _).drew h) _, heap_alloc_new _ _⟩
section
variable {G : List (Nat × Obj)} {W w w' : World} {B P M : Nat} {S : ByteArray} {s : St} {tv : Value} {fc fa : Nat} {lab : Nat → Own} {X : List Nx} {p b : Nat} {l : Bs}
/-- What gap leaves. -/
def GapP (G : List (Nat × Obj)) (W : World) (B P M : Nat) (S : ByteArray) (s : St) (tv : Value) (lab : Nat → Own) (X : List Nx) (p b : Nat) (g : GR) (e : Ending) (w' : World) : Prop :=
  match g with
  | .ok a => e = .returned (.bool true) ∧ VP G W w' B P M S { s with a := a } tv 0 0 lab X p b
  | .bad a => e = .returned (.bool false) ∧ VP G W w' B P M S s tv 3 a lab X p b
set_option maxHeartbeats 16000000 in
set_option maxRecDepth 100000 in
theorem gap_r (h : VP G W w B P M S s tv 0 0 lab X p b) (hs : S = txt l) (hl : l.length ≤ 50000) (ha : s.a ≤ l.length) :
    Calls Tryz.prog 105 #[.pointer (some ⟨P, 0, none⟩)] w (GapP G W B P M S s tv lab X p b (gap l s.a)) := by
  obtain ⟨_, _, c2, c3, _⟩ := h.cells
  have hP := h.plt
  have c2' : ∀ o, (w.alloc o).cell? ⟨P, 2, none⟩ = _ := fun o => (World.cell?_alloc_lt _ _ _ hP).trans c2
  have c3' : ∀ o, (w.alloc o).cell? ⟨P, 3, none⟩ = _ := fun o => (World.cell?_alloc_lt _ _ _ hP).trans c3
  have HV := Lib.hid h
  obtain ⟨g, hg⟩ : ∃ g, g = gap l s.a := ⟨_, rfl⟩
  rw [← hg]
  obtain ⟨E, C, K, hv, HC⟩ : ∃ E C K : Nat, gpv g = .tuple #[.int .i64 (E : Nat), .agg #[.int .i64 (C : Nat), .int .i64 (K : Nat)]] ∧ Hid ((C = 0 ∧ g = .ok E) ∨ (C = 3 ∧ g = .bad K)) := by
    cases g with
    | ok e => exact ⟨e, 0, 0, rfl, Lib.hid (.inl ⟨rfl, rfl⟩)⟩
    | bad a => exact ⟨0, 3, a, rfl, Lib.hid (.inr ⟨rfl, rfl⟩)⟩
  have CG := Lib.hid (fun (w : World) => show Calls Tryz.prog 13 #[.string S, .int .i64 (s.a : Nat)] w fun e w' => e = .returned (.tuple #[.int .i64 (E : Nat), .agg #[.int .i64 (C : Nat), .int .i64 (K : Nat)]]) ∧ Below w.heap.size w w' from by
    have := gap_in w hs (by omega) ha (y := (s.a : Nat)) rfl
    rwa [← hg, hv] at this)
  clear h hs hl ha hg hv
  go_enter Tryz.func105, Tryz.ntmps105
  go_upto_region 1 with fail
  go_cut [3, 4] from 3 to 16 (fun s3 s4 wx => s3 = .int .i64 (E : Nat) ∧ ∃ q, s4 = .pointer (some ⟨q, 0, none⟩) ∧ Hid (Below w.heap.size w wx ∧ wx.heap[q]? = some (fvO (C : Nat) (K : Nat))))
  case first =>
    go_region_with (go_at_call 13; refine (CG.out _).mono ?_; rintro en w9 ⟨rfl, hb⟩; (try have zz : w9.frozen? ⟨w.heap.size, 0, none⟩ = false ∧ w9.frozen? ⟨w.heap.size, 1, none⟩ = false ∧ w9.cell? ⟨w.heap.size, 0, none⟩ = some (.int .i64 0) ∧ w9.cell? ⟨w.heap.size, 1, none⟩ = some (.int .i64 0) := froz hb); (try obtain ⟨z5, z6, z7, z8⟩ := zz))
    all_goals
      go_wp2_with fail
      go_meet
      first
        | exact ⟨rfl, w.heap.size, rfl, Lib.hid (frozS (V := w) hb)⟩
        | exact ⟨rfl, w9.heap.size, rfl, Lib.hid (allocS (V := w) hb)⟩
  case rest =>
    obtain ⟨rfl, q, rfl, HQ⟩ := hcut
    have HV1 := Lib.hid (HV.out.on HQ.out.1)
    have hq := HQ.out.2
    have f0 : wc.cell? ⟨q, 0, none⟩ = some (.int .i64 (C : Nat)) := by simp [World.cell?, hq]
    have f1 : wc.cell? ⟨q, 1, none⟩ = some (.int .i64 (K : Nat)) := by simp [World.cell?, hq]
    clear hq HQ
    rcases HC.out with ⟨rfl, rfl⟩ | ⟨rfl, rfl⟩
    · obtain ⟨_, _, _, k3, _⟩ := HV1.out.cells
      have z3 := HV1.out.free 3
      have HN := Lib.hid (HV1.out.at_ (a' := E))
      go_wp2_with fail
      go_ret
      exact ⟨rfl, HN.out⟩
    · have HF := Lib.hid (fail_any (c := 3) (k := K) HV1.out (y1 := 3) (y2 := (K : Nat)) rfl rfl)
      go_wp2_with fail
      refine HF.out.mono ?_
      rintro e w2 ⟨rfl, V2⟩
      go_wp2_with fail
      go_ret
      exact ⟨rfl, V2⟩
end
end Tv
end Go.Proofs.YtbeefjhcbphiaaaGreatDoor
/- A node added to the reader's tree. -/
namespace Go.Proofs.YtbeefjhcbphiaaaGreatDoor
open Go.RowKit
namespace Tv
open Ty (WR1 KR Ky Bs blK endP endP_on endP_no endP_far)

/-- append as a step of a region that draws, onto a row of one's own. -/
theorem step_own {P : Program} {w : World} {ops : Array Oper} {o : Oper} {a : Act} {K : Act → World → Prop} {Q : Exit → Act → World → Prop} {E : Prop} (hgd : o.guard = none) (s x : Operand) (t : TypeId)
    (ho : o.op = .call { callee := .builtin .append, args := #[s, x], argTypes := #[t, t] })
    (base : Nat) (e : TypeId) (i : TypeInfo) (z : Value) (size bytes : Nat) (h1 : P.underlying t = some (.slice e)) (h2 : P.info? e = some i) (h3 : i.zero = some z) (h4 : i.size = size) (h5 : i.bytes = bytes) (h6 : z.cells.size = size) (h7 : 0 < size)
    (v : Value) (n : Nat) (xs : List Value) (hs : a.eval s = v) (hown : w.ownsRow base e size v n xs) (ad : Addr) (m c : Nat) (news : List Value) (hx : a.eval x = .slice (some ad) m c) (hl : news.length = m * size) (hnews : ∀ j u, news[j]? = some u → w.cell? (ad.add j) = some u) (hone : ∀ u ∈ news, u.oneCell' = true)
    (h63 : n + m ≤ maxLen) (hbytes : (n + m) * bytes ≤ 140737488355328) (hbase : base ≤ w.heap.size)
    (hK : ∀ v' w', w'.ownsRow base e size v' (n + m) (xs ++ news) → w.grownBy w' v.ownBlock → (v'.ownBlock = v.ownBlock ∨ v'.ownBlock = some w.heap.size) → K (a.put o.dst v') w') :
    if Region.wanted o (yielded ops a.tmps) = true then Oper.wp P o a w K Q else E := by
  have hw : Region.wanted o (yielded ops a.tmps) = true := by simp [Region.wanted, hgd]
  rw [if_pos hw]
  obtain ⟨v', w', hrun, r1, r2, _, r3⟩ := run_append_own_at (P := P) w base t o.type e i z size bytes h1 h2 h3 h4 h5 h6 h7 v n xs hown ad m c news hl hnews hone h63 hbytes hbase
  unfold Oper.wp
  simp [execOp, ho, resolve, invoke, builtin, hs, hx, hrun, Result.andThen]
  exact hK v' w' r1 r2 r3
theorem zc7 : (Value.agg #[.int .u8 0, .string ⟨#[]⟩, .slice none 0 0, .slice none 0 0, .slice none 0 0, .int .i64 0, .int .i64 0]).cells.size = 7 := by simp [Value.cells]
theorem one7 (x : Nx) (h : ∀ k, (x.v k).oneCell' = true) : ∀ u ∈ ndC x, u.oneCell' = true := by
  intro u hu
  simp [ndC] at hu
  rcases hu with rfl | rfl | rfl | rfl | rfl | rfl | rfl <;> first | rfl | exact h _
section
variable {G : List (Nat × Obj)} {W w w' : World} {B P M : Nat} {S : ByteArray} {s : St} {tv : Value} {lab : Nat → Own} {X : List Nx} {p b : Nat}
/-- What a node more leaves. -/
def AddP (G : List (Nat × Obj)) (W : World) (B P M : Nat) (S : ByteArray) (s' : St) (b : Nat) (w' : World) : Prop := ∃ tv' lab' X', VP G W w' B P M S s' tv' 0 0 lab' X' 0 b
set_option maxRecDepth 100000 in
set_option maxHeartbeats 8000000 in
theorem add_any (h : VP G W w B P M S s tv 0 0 lab X p b) (hp : p ≤ 1) (hb : b ≤ 1000000) {kd e : Nat} {T : Bs} {Q : ByteArray} (hQ : Q = txt T) {yk ye : Int} (hyk : yk = kd) (hye : ye = e) :
    Calls Tryz.prog 103 #[.pointer (some ⟨P, 0, none⟩), .int .u8 yk, .string Q, .int .i64 ye] w fun en w' => en = .returned (.int .i64 (s.X.length : Nat)) ∧ AddP G W B P M S (s.push (Nd.leaf kd T (s.a, e)) e) (b + 1) w' := by
  subst hQ; subst hyk; subst hye
  obtain ⟨i4, hi4, hy0, hy1, hy2⟩ := info_parts (show (Tryz.prog.info? 42).map (fun i => (i.zero, i.size, i.bytes)) = some (some (.agg #[.int .u8 0, .string ⟨#[]⟩, .slice none 0 0, .slice none 0 0, .slice none 0 0, .int .i64 0, .int .i64 0]), 7, 112) by kernel_rfl)
  have hX6 : X.length ≤ 1000000 := by have := h.ok.len; rw [h.xlen]; omega
  rw [← h.xlen]
  obtain ⟨nA, c, et, _⟩ := (Rr.of_own h.nt.row).shape
  subst et
  obtain ⟨xl, hxl⟩ : ∃ xl, xl = X.length := ⟨_, rfl⟩
  have HXL := Lib.hid hxl
  have HV := Lib.hid h
  have hP := h.plt
  have HTB := Lib.hid (show ∀ w6 o, (w.alloc o).grownBy w6 (Value.slice nA X.length c).ownBlock → w6.cell? ⟨P, 0, none⟩ = some (.slice nA xl c) ∧ w6.frozen? ⟨P, 0, none⟩ = false ∧ w6.cell? ⟨P, 3, none⟩ = some (.int .i64 (s.a : Nat)) ∧ w6.frozen? ⟨P, 3, none⟩ = false from fun w6 o hg => by
    have e : w6.heap[P]? = w.heap[P]? := by
      rw [hg.block P (by rw [alloc_size]; omega) (fun e => by have := (h.nt.lt P e.symm).1; have := h.lt.2.1; omega)]
      exact (World.grownBy_alloc w o none).block P hP (by simp)
    refine ⟨(World.cell?_of_block (a := ⟨P, 0, none⟩) e).trans ?_, (World.frozen?_of_block (a := ⟨P, 0, none⟩) e).trans (h.free 0), (World.cell?_of_block (a := ⟨P, 3, none⟩) e).trans h.cells.2.2.2.1, (World.frozen?_of_block (a := ⟨P, 3, none⟩) e).trans (h.free 3)⟩
    rw [HXL.out]; exact h.cells.1)
  have c0 := h.cells.1
  have c3 := h.cells.2.2.2.1
  rw [← HXL.out] at c0
  have c0a : ∀ o, (w.alloc o).cell? ⟨P, 0, none⟩ = some (.slice nA xl c) := fun o => by rw [World.cell?_alloc_lt _ _ _ hP]; exact c0
  have c3a : ∀ o, (w.alloc o).cell? ⟨P, 3, none⟩ = some (.int .i64 (s.a : Nat)) := fun o => by rw [World.cell?_alloc_lt _ _ _ hP]; exact c3
  have hR3 := Lib.hid h.nt.row
  rw [← HXL.out] at hR3
  have hbs3 : W.heap.size ≤ w.heap.size := h.size
  rw [← hxl] at hX6 ⊢
  clear h hxl hb
  go_enter Tryz.func103, Tryz.ntmps103
  go_upto_region 1 with fail
  go_region_law (refine step_own rfl (.tmp 14) (.tmp 24) 23 rfl W.heap.size 42 i4 _ 7 112 Tryz.underlying23 hi4 hy0 hy1 hy2 zc7 (by decide) _ xl (ndL X) rfl (hR3.out.alloc _) ⟨w.heap.size, 0, none⟩ 1 1 (ndC ⟨Nd.leaf kd T (s.a, e), nil0⟩) rfl rfl (Ty.cells_new _ _ rfl) (one7 _ (fun _ => rfl)) (by unfold maxLen; omega) (by omega) (by simp; omega) ?_; intro v' w6 hown6 hg6 hl6; obtain ⟨c6, f6, c7, f7⟩ := HTB.out _ _ (by rw [← HXL.out]; first | exact hg6 | exact gDrew hg6); obtain ⟨vA, vc, rfl, _⟩ := (Rr.of_own hown6).shape)
  all_goals
    have HD := Lib.hid ((VP.push (e := s.a) HV.out hp (by rw [← HXL.out]; first | exact hg6 | exact gDrew hg6) (by rw [← HXL.out]; exact hown6) (by rw [← HXL.out]; exact hl6) rfl).at_ (a' := e))
    clear hown6 hg6 hl6
    go_wp2_with fail
    go_ret
    exact ⟨Ty.ret_i (by omega), _, _, _, HD.out⟩
end
end Tv
end Go.Proofs.YtbeefjhcbphiaaaGreatDoor
/- The reader: a list, a table begun and ended; what is read of strings, keys, tokens is given; quoted, bare. -/
namespace Go.Proofs.YtbeefjhcbphiaaaGreatDoor
open Go.RowKit
namespace Tv
open Ty (WR1 KR Ky Bs blK endP endP_on endP_no endP_far)

/-- What tells of strings, keys and tokens, in each world above W. -/
structure EnvC (W : World) (B : Nat) (E : Env) (S : ByteArray) : Prop where
  hs : S = txt E.l
  hl : E.l.length ≤ 50000
  str : ∀ p, p ≤ E.l.length → (bt E.l p = 34 ∨ bt E.l p = 39) → ∀ wx, Below B W wx → Calls Tryz.prog 101 #[.string S, .int .i64 p] wx fun e w' => e = .returned (Ty.wrv (E.sd p)) ∧ Below wx.heap.size wx w'
  strOk : ∀ p t e, p ≤ E.l.length → E.sd p = .ok t e → p < e ∧ e ≤ E.l.length
  strBad : ∀ p c a, E.sd p = .bad c a → c ≠ 0
  key : ∀ p, p ≤ E.l.length → ∀ wx, Below B W wx → Calls Tryz.prog 130 #[.string S, .int .i64 p] wx (Ty.KPost wx (E.kd p))
  keyOk : ∀ p k e, p ≤ E.l.length → E.kd p = .ok k e → k ≠ [] ∧ p + k.length ≤ e ∧ e ≤ E.l.length ∧ ∀ x ∈ k, x.1.length ≤ 1000000
  keyOut : ∀ p, p ≤ E.l.length → E.kd p ≠ .out
  keyBad : ∀ p c a, E.kd p = .bad c a → c ≠ 0
  tok : ∀ p, p ≤ E.l.length → ∀ wx, Below B W wx → Calls Tryz.prog 110 #[.string (txt (E.l.drop p))] wx fun e w' => e = .returned (.tuple #[.int .u8 ((E.tk p).kind : Nat), .string (txt (E.tk p).text), .int .i64 ((E.tk p).many : Nat), .int .i64 ((E.tk p).code : Nat)]) ∧ Below wx.heap.size wx w'
  tokOk : ∀ p, p ≤ E.l.length → p + (E.tk p).many ≤ E.l.length ∧ ((E.tk p).code = 0 → 0 < (E.tk p).many)
section
variable {G : List (Nat × Obj)} {W w w' : World} {B P M : Nat} {S : ByteArray} {s : St} {tv : Value} {lab : Nat → Own} {X : List Nx} {p b : Nat} {E : Env} {l : Bs}
def BadP (G : List (Nat × Obj)) (W : World) (B P M : Nat) (S : ByteArray) (c a : Nat) (w' : World) : Prop := ∃ s' tv' lab' X' p' b', VP G W w' B P M S s' tv' c a lab' X' p' b'
/-- What reading leaves. -/
def VOut (G : List (Nat × Obj)) (W : World) (B P M : Nat) (S : ByteArray) (n a0 : Nat) (r : Rs) (e : Ending) (w' : World) : Prop := match r with
  | .ok s' => e = .returned (.bool true) ∧ AddP G W B P M S s' s'.a w' ∧ a0 < s'.a ∧ s'.a ≤ n
  | .bad c a => e = .returned (.bool false) ∧ BadP G W B P M S c a w'
  | .out => False
theorem VP.bad {c a : Nat} (h : VP G W w B P M S s tv c a lab X p b) : BadP G W B P M S c a w := ⟨_, _, _, _, _, _, h⟩
theorem VP.addP (h : VP G W w B P M S s tv 0 0 lab X 0 b) : AddP G W B P M S s b w := ⟨_, _, _, h⟩
theorem AddP.mono {b' : Nat} (h : AddP G W B P M S s b w) (hb : b ≤ b') : AddP G W B P M S s b' w := by
  obtain ⟨tv, lab, X, h⟩ := h
  exact ⟨tv, lab, X, h.mono hb⟩
theorem VP.bel (h : VP G W w B P M S s tv 0 0 lab X p b) (hb : Below w.heap.size w w') : Below B W w' := h.below.trans (hb.mono (by have := h.plt; have := h.lt; omega))
theorem NT.blk {base : Nat} {opn : Nat → Prop} {v : Value} (h : NT w base lab opn v X) (h0 : 0 < X.length) : ∃ g c, v = .slice (some ⟨g, 0, none⟩) X.length c ∧ v.ownBlock = some g ∧ X.length ≤ c ∧ c ≤ maxLen := by
  obtain ⟨g, c, e, _, _, h1, h2, _⟩ := h.shape h0
  exact ⟨g, c, e, by rw [e]; rfl, h1, h2⟩
set_option maxRecDepth 100000 in
theorem begin_deep (h : VP G W w B P M S s tv 0 0 lab X p b) {k ar : Int} (har : 256 ≤ ar) :
    Calls Tryz.prog 104 #[.pointer (some ⟨P, 0, none⟩), .int .u8 k, .int .i64 ar] w fun e w' => e = .returned (.tuple #[.int .i64 0, .bool false]) ∧ BadP G W B P M S 4 s.a w' := by
  have c3 := h.cells.2.2.2.1
  have HF := Lib.hid (fail_any (c := 4) (k := s.a) h (y1 := 4) (y2 := (s.a : Nat)) rfl rfl)
  clear h
  go_enter Tryz.func104, Tryz.ntmps104
  go_wp2_with fail
  refine HF.out.mono ?_
  rintro e w2 ⟨rfl, V2⟩
  go_wp2_with fail
  refine bodyPost_ret (v := .tuple #[.int .i64 0, .bool false]) (by simp [results, Tryz.results104, go_sem, *]) rfl ?_
  exact ⟨rfl, V2.bad⟩
set_option maxRecDepth 100000 in
theorem begin_ok (h : VP G W w B P M S s tv 0 0 lab X p b) (hp : p ≤ 1) (hb : b ≤ 1000000) {kd : Nat} {k ar : Int} (hk : k = kd) (har : ¬ 256 ≤ ar) (ha : s.a ≤ 1000000) :
    Calls Tryz.prog 104 #[.pointer (some ⟨P, 0, none⟩), .int .u8 k, .int .i64 ar] w fun e w' => e = .returned (.tuple #[.int .i64 (s.X.length : Nat), .bool true]) ∧ AddP G W B P M S (s.push (Nd.leaf kd [] (s.a, ((s.a + 1 : Nat) : Int))) (s.a + 1)) (b + 1) w' := by
  have c3 := h.cells.2.2.2.1
  have HF := Lib.hid (add_any (e := s.a + 1) (T := []) (Q := ⟨#[]⟩) h hp hb rfl hk (ye := (s.a : Int) + 1) (by omega))
  clear h hk
  go_enter Tryz.func104, Tryz.ntmps104
  go_wp2_with fail
  refine HF.out.mono ?_
  rintro e w2 ⟨rfl, V2⟩
  go_wp2_with fail
  refine bodyPost_ret (v := .tuple #[.int .i64 (s.X.length : Nat), .bool true]) (by simp [results, Tryz.results104, go_sem, *]) rfl ?_
  exact ⟨rfl, V2⟩
set_option maxHeartbeats 4000000 in
set_option maxRecDepth 100000 in
theorem end_no (h : VP G W w B P M S s tv 0 0 lab X p b) (hs : S = txt l) (hl : l.length ≤ 50000) (ha : s.a ≤ l.length) {n m : Int} (hm : bt l s.a ≠ m) :
    Calls Tryz.prog 107 #[.pointer (some ⟨P, 0, none⟩), .int .i64 n, .int .u8 m] w fun e w' => e = .returned (.bool false) ∧ BadP G W B P M S 3 s.a w' := by
  have CT := Lib.hid (takes_any h hs hl ha m (x := false) (decide_eq_false hm).symm)
  have HFA := Lib.hid (fun (wx : World) (h : VP G W wx B P M S s tv 0 0 lab X p b) => fail_any (c := 3) (k := s.a) h (y1 := 3) (y2 := (s.a : Nat)) rfl rfl)
  clear h hs hl ha hm
  go_enter Tryz.func107, Tryz.ntmps107
  go_wp2_with fail
  refine CT.out.mono ?_
  rintro e w1 ⟨rfl, V1⟩
  rw [if_neg (by decide)] at V1
  have HV1 := Lib.hid V1
  have c3 := V1.cells.2.2.2.1
  clear V1
  go_wp2_with fail
  refine (HFA.out _ HV1.out).mono ?_
  rintro e w2 ⟨rfl, V2⟩
  go_wp2_with fail
  go_ret
  exact ⟨rfl, V2.bad⟩
set_option maxHeartbeats 4000000 in
set_option maxRecDepth 100000 in
theorem end_yes (h : VP G W w B P M S s tv 0 0 lab X 0 b) (hs : S = txt l) (hl : l.length ≤ 50000) (ha : s.a ≤ l.length) {m : Int} (hm : bt l s.a = m) {n : Nat} {y : Int} (hy : y = n) (hn : n < s.X.length) (hb : b ≤ 1000000) :
    Calls Tryz.prog 107 #[.pointer (some ⟨P, 0, none⟩), .int .i64 y, .int .u8 m] w fun e w' => e = .returned (.bool true) ∧ AddP G W B P M S (s.close n) b w' := by
  subst hy
  have CT := Lib.hid (takes_any h hs hl ha m (x := true) (decide_eq_true hm).symm)
  have hX6 : X.length ≤ 1000000 := by have := h.ok.len; rw [h.xlen]; omega
  rw [← h.xlen] at hn
  have hal : s.a ≤ 50000 := by omega
  have HN := Lib.hid hn
  have HX6 := Lib.hid hX6
  clear h hs hl ha hm hX6
  go_enter Tryz.func107, Tryz.ntmps107
  go_wp2_with fail
  refine CT.out.mono ?_
  rintro e w1 ⟨rfl, V1⟩
  rw [if_pos trivial] at V1
  have HV1 := Lib.hid V1
  obtain ⟨g, c, et, hgb, hXc, hc6⟩ := V1.nt.blk (by omega)
  obtain ⟨x, hx⟩ : ∃ x, X[n]? = some x := ⟨_, List.getElem?_eq_getElem hn⟩
  obtain ⟨g', c', et', _, _, _, _, hfree, hcells⟩ := V1.nt.shape (by omega)
  rw [et] at et'
  injection et' with e1 _ e3
  injection e1 with e1
  injection e1 with e1
  subst e1
  have c0 := V1.cells.1
  rw [et] at c0
  have c3 := V1.cells.2.2.2.1
  have z6 : w1.cell? ⟨g, n * 7 + 5 + 1, none⟩ = some (.int .i64 x.nd.span.2) := hcells n x hx 6 _ rfl
  have f6 : w1.frozen? ⟨g, n * 7 + 5 + 1, none⟩ = false := hfree (n * 7 + 6)
  obtain ⟨xl, hxl⟩ : ∃ xl, xl = X.length := ⟨_, rfl⟩
  rw [← hxl] at c0 hn
  have hX6 : xl ≤ 1000000 := by rw [hxl]; exact HX6.out
  have HTO := Lib.hid (VP.to_ (i := n) (e := s.a) V1 hx hgb rfl)
  have HTD := Lib.hid (VP.to_ (i := n) (e := s.a) V1.drew hx hgb rfl)
  clear V1 hgb hXc hc6 hx hfree hcells hxl et
  go_upto_region 3 with fail
  go_region
  all_goals
    go_wp2_with fail
    go_ret
    first
    | exact ⟨rfl, HTO.out.addP⟩
    | exact ⟨rfl, HTD.out.addP⟩
end
end Tv
end Go.Proofs.YtbeefjhcbphiaaaGreatDoor
