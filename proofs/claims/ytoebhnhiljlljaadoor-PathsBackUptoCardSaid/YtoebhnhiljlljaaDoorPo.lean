/- A builder of text: what is written behind what stands in it. -/
import Derived.Test.YtoebhnhiljlljaaDoorPk
import Derived.Test.YtoebhnhiljlljaaDoorApp
import Derived.Test.YtoebhnhiljlljaaDoorShelf
import Derived.Laws.OwnMore
import Derived.Shelf.Strings.Builder1
namespace Go.Proofs.YtoebhnhiljlljaaDoor
open Go.RowKit
namespace Pa
set_option maxRecDepth 100000

theorem ccheck_any {B b : Nat} {p v : Value} (w : World) (hB : B ≤ b) (hp : p = .pointer none ∨ p = .pointer (some ⟨b, 0, none⟩)) (h : w.heap[b]? = some (.cells #[p, v] 44 (0, 0))) :
    Calls Tryd.prog 43 #[.pointer (some ⟨b, 0, none⟩)] w fun e w' => e = .returned (.tuple #[]) ∧ w'.heap[b]? = some (.cells #[.pointer (some ⟨b, 0, none⟩), v] 44 (0, 0)) ∧ Below B w w' ∧ (∀ k, k ≠ b → w'.heap[k]? = w.heap[k]?) ∧ w'.heap.size = w.heap.size := by
  obtain ⟨j, hj, hjs⟩ := Option.map_eq_some_iff.1 (show (Tryd.prog.info? 44).map (·.size) = some 2 by kernel_rfl)
  have h0 : w.cell? ⟨b, 0, none⟩ = some p := by rw [Lib.cell_of_heap h]; rfl
  have hsh : w.shape? b = some (44, 2) := by simp [World.shape?, h]
  have hfz : w.frozen? ⟨b, 0, none⟩ = false := Lib.frozen_of_heap h 0
  rcases hp with rfl | rfl
  · refine (show Calls Tryd.prog 43 #[.pointer (some ⟨b, 0, none⟩)] w fun e w' => e = .returned (.tuple #[]) ∧ w' = w.setCell ⟨b, 0, none⟩ (.pointer (some ⟨b, 0, none⟩)) from ?_).mono ?_
    · clear h
      go_enter Tryd.func43, Tryd.ntmps43
      go_wp2
      rw [Lib.run_to_unsafe w ⟨b, 0, none⟩ Tryd.underlying41 Tryd.underlying83 hj (by rw [hjs]; decide) hsh (Nat.zero_lt_succ 1)]
      simp only [Result.andThen]
      rw [Oper.upon_value]
      go_wp2
      rw [run_callFunc_extern Tryd.func59 (by kernel_rfl) (by kernel_rfl) (by kernel_rfl) (e := Extern.AbiNoEscape.same) (by kernel_rfl)]
      rw [Lib.run_noEscape]
      simp only [Result.andThen]
      rw [Oper.upon_value]
      go_wp2
      rw [Lib.run_from_unsafe w ⟨b, 0, none⟩ Tryd.underlying83 Tryd.underlying41 hj hsh (by kernel_rfl)]
      simp only [Result.andThen]
      rw [Oper.upon_value]
      go_wp2
      go_end0
      exact ⟨rfl, rfl⟩
    · rintro e w' ⟨rfl, rfl⟩
      exact ⟨rfl, Go.heap_setCell_same w b 0 _ _ _ h, (Below.refl B w).setCell (p := ⟨b, 0, none⟩) hB _, fun k hk => Go.RowKit.Below.heap_setCell _ _ _ _ hk, by simp⟩
  · refine (show Calls Tryd.prog 43 #[.pointer (some ⟨b, 0, none⟩)] w fun e w' => e = .returned (.tuple #[]) ∧ w' = w from ?_).mono ?_
    · clear h
      go_enter Tryd.func43, Tryd.ntmps43
      go_wp2
      rw [Lib.run_neq_ptr_same w _ Tryd.underlying41 hj]
      go_wp2
      go_end0
      exact ⟨rfl, rfl⟩
    · rintro e w' ⟨rfl, rfl⟩
      exact ⟨rfl, h, Below.refl B _, fun _ _ => rfl, rfl⟩
theorem wpAppV {P : Program} (w : World) {ops : Array Oper} {rest : List Oper} {o : Oper} {a : Act} {Q : Exit → Act → World → Prop} (hg : o.guard = none) (s x : Operand) (t : TypeId) (hop : o.op = Op.call { callee := Callee.builtin Builtin.append, args := #[s, x], argTypes := #[t, t] })
    (base : Nat) (e : TypeId) (i : TypeInfo) (z : Value) (size bytes : Nat) (h1 : P.underlying t = some (.slice e)) (h2 : P.info? e = some i) (h3 : i.zero = some z) (h4 : i.size = size) (h5 : i.bytes = bytes) (h6 : z.cells.size = size) (hsz : 0 < size)
    (v : Value) (n : Nat) (xs : List Value) (hs : a.eval s = v) (hown : w.ownsRow base e size v n xs) (ad : Addr) (m c : Nat) (news : List Value) (hx : a.eval x = .slice (some ad) m c) (hl : news.length = m * size) (hnews : ∀ j u, news[j]? = some u → w.cell? (ad.add j) = some u) (hone : ∀ u ∈ news, u.oneCell' = true)
    (h63 : n + m ≤ maxLen) (hbytes : (n + m) * bytes ≤ 140737488355328) (hbase : base ≤ w.heap.size)
    (hK : ∀ v' w', w'.ownsRow base e size v' (n + m) (xs ++ news) → w.grownBy w' v.ownBlock → (v'.ownBlock = v.ownBlock ∨ v'.ownBlock = some w.heap.size) → wpList P ops Q rest (a.put o.dst v') w') : wpList P ops Q (o :: rest) a w := by
  refine wpList_plain hg fun K hK' => ?_
  obtain ⟨v', w', hrun, r1, r2, _, r3⟩ := run_append_own_at (P := P) w base t o.type e i z size bytes h1 h2 h3 h4 h5 h6 hsz v n xs hown ad m c news hl hnews hone h63 hbytes hbase
  unfold Oper.wp
  simp [execOp, hop, resolve, invoke, builtin, hs, hx, hrun, Result.andThen]
  exact hK' _ _ (hK v' w' r1 r2 r3)
/-- A builder, and blocks that are not its own. -/
def Bf (B b : Nat) (ok : Nat → Prop) (bs : List Value) (w : World) : Prop :=
  ∃ p v, (p = .pointer none ∨ p = .pointer (some ⟨b, 0, none⟩)) ∧ B ≤ b ∧ w.heap[b]? = some (.cells #[p, v] 44 (0, 0)) ∧ w.ownsRow B 5 1 v bs.length bs ∧ v.ownBlock ≠ some b ∧ ∀ k, ok k → k < w.heap.size ∧ k ≠ b ∧ v.ownBlock ≠ some k
set_option maxHeartbeats 2000000 in
theorem wbyte0 {B b : Nat} {ok : Nat → Prop} {bs : List Value} {c : Int} (w : World) (h : Bf B b ok bs w) (hlen : bs.length + 1 ≤ 140737488355328) (hBw : B ≤ w.heap.size) :
    Calls Tryd.prog 57 #[.pointer (some ⟨b, 0, none⟩), .int .u8 c] w fun e w' => e = .returned .nilIface ∧ Bf B b ok (bs ++ [.int .u8 c]) w' ∧ Below B w w' ∧ ∀ k, ok k → w'.heap[k]? = w.heap[k]? := by
  obtain ⟨i0, hi, hz0, hz1, hz2⟩ := info_parts (show (Tryd.prog.info? 5).map (fun i => (i.zero, i.size, i.bytes)) = some (some (.int .u8 0), 1, 1) by kernel_rfl)
  obtain ⟨p, v, hp, hB, hbk0, hown0, hne, hok⟩ := h
  go_enter Tryd.func57, Tryd.ntmps57
  go_wp2_with fail
  refine (ccheck_any _ hB hp hbk0).mono ?_
  rintro e w1 ⟨rfl, hbk, hb1, hk1, -⟩
  have hown : w1.ownsRow B 5 1 v bs.length bs := own_on hown0 fun k hk => hk1 k (fun e => hne (by rw [hk, e]))
  have c0 : w1.cell? ⟨b, 0, none⟩ = some (.pointer (some ⟨b, 0, none⟩)) := by rw [Lib.cell_of_heap hbk]; rfl
  have c1 : w1.cell? ⟨b, 1, none⟩ = some v := by rw [Lib.cell_of_heap hbk]; rfl
  go_wp2_with (at_builtin; refine wpAppV _ rfl (.tmp 11) (.tmp 13) 42 rfl B 5 i0 (.int .u8 0) 1 1 Tryd.underlying42 hi hz0 hz1 hz2 rfl (by decide) v bs.length bs rfl (hown.alloc _) ⟨w1.heap.size, 0, none⟩ 1 1 [.int .u8 c] rfl rfl ?c1 ?c2 ?c3 ?c4 ?c5 ?_)
  case c1 =>
    intro j u hj
    match j, hj with
    | 0, hj => simp at hj; subst hj; simp [Addr.add]
  case c2 => intro u hu; simp at hu; subst hu; rfl
  case c3 => unfold maxLen; omega
  case c4 => omega
  case c5 => have := hb1.size; simp; omega
  intro v' w2 hown' hgrow hv'
  have hlt : b < w1.heap.size := (Array.getElem?_eq_some_iff.1 hbk).1
  have hb2 : w2.heap[b]? = some (.cells #[.pointer (some ⟨b, 0, none⟩), v] 44 (0, 0)) := by
    rw [hgrow.block b (by simp; omega) (fun e => hne e.symm), Lib.alloc_old w1 _ b hlt]
    exact hbk
  have d0 : w2.cell? ⟨b, 0, none⟩ = some (.pointer (some ⟨b, 0, none⟩)) := by rw [Lib.cell_of_heap hb2]; rfl
  have d1 : w2.cell? ⟨b, 1, none⟩ = some v := by rw [Lib.cell_of_heap hb2]; rfl
  have f1 : w2.frozen? ⟨b, 1, none⟩ = false := Lib.frozen_of_heap hb2 1
  obtain ⟨ao, n', cap, rfl⟩ : ∃ ao n' cap, v' = .slice ao n' cap := by
    rcases hown'.2 with ⟨hv, _⟩ | ⟨g, cap, cur, hv, _⟩
    · exact ⟨_, _, _, hv⟩
    · exact ⟨_, _, _, hv⟩
  go_wp2
  go_ret
  have hnb : (Value.slice ao n' cap).ownBlock ≠ some b := by
    rcases hv' with e | e
    · rw [e]; exact hne
    · rw [e]; simp; omega
  refine ⟨rfl, ⟨_, _, .inr rfl, hB, Go.heap_setCell_same w2 b 1 _ _ _ hb2, ?_, hnb, fun k hk => ?_⟩, ?_, fun k hk => ?_⟩
  · refine own_on (w := w2) (by simpa using hown') fun k hk => Go.RowKit.Below.heap_setCell _ _ _ _ (fun e => hnb (by rw [hk, e]))
  · obtain ⟨a1, a2, a3⟩ := hok k hk
    refine ⟨by have := hgrow.size; have h9 := hb1.size; simp at this ⊢; omega, a2, ?_⟩
    rcases hv' with e | e <;> rw [e]
    · exact a3
    · have h9 := hb1.size; simp; omega
  · exact ((hb1.alloc (by have := hb1.size; omega) _).grown hgrow (by have := hb1.size; simp; omega) (fun k hk => (hown.lt k hk).1)).setCell (p := ⟨b, 1, none⟩) hB _
  · obtain ⟨a1, a2, a3⟩ := hok k hk
    exact (Go.RowKit.Below.heap_setCell _ _ _ _ a2).trans ((hgrow.block k (by have h9 := hb1.size; simp; omega) (fun e => a3 e.symm)).trans ((Lib.alloc_old w1 _ k (by have h9 := hb1.size; omega)).trans (hk1 k a2)))
set_option maxHeartbeats 2000000 in
theorem wstr0 {B b : Nat} {ok : Nat → Prop} {bs : List Value} {s : ByteArray} (w : World) (h : Bf B b ok bs w) (hlen : bs.length + s.size ≤ 140737488355328) (hBw : B ≤ w.heap.size) :
    Calls Tryd.prog 25 #[.pointer (some ⟨b, 0, none⟩), .string s] w fun e w' => e = .returned (.tuple #[.int .i64 s.size, .nilIface]) ∧ Bf B b (fun _ => False) (bs ++ Lib.strCells s) w' ∧ Below B w w' := by
  obtain ⟨i0, hi, hz0, hz1, hz2⟩ := info_parts (show (Tryd.prog.info? 5).map (fun i => (i.zero, i.size, i.bytes)) = some (some (.int .u8 0), 1, 1) by kernel_rfl)
  obtain ⟨p, v, hp, hB, hbk0, hown0, hne, hok⟩ := h
  go_enter Tryd.func25, Tryd.ntmps25
  go_wp2_with fail
  refine (ccheck_any _ hB hp hbk0).mono ?_
  rintro e w1 ⟨rfl, hbk, hb1, hk1, -⟩
  have hown : w1.ownsRow B 5 1 v bs.length bs := own_on hown0 fun k hk => hk1 k (fun e => hne (by rw [hk, e]))
  have c0 : w1.cell? ⟨b, 0, none⟩ = some (.pointer (some ⟨b, 0, none⟩)) := by rw [Lib.cell_of_heap hbk]; rfl
  have c1 : w1.cell? ⟨b, 1, none⟩ = some v := by rw [Lib.cell_of_heap hbk]; rfl
  go_wp2_with (at_builtin; refine Lib.wpList_append_own_string _ rfl _ _ 42 9 rfl B 5 i0 Tryd.underlying42 Tryd.underlying9 hi hz0 hz1 hz2 _ _ _ rfl hown s rfl ?c3 ?c4 ?c5 ?_)
  case c3 => unfold maxLen; omega
  case c4 => omega
  case c5 => have := hb1.size; omega
  intro v' w2 hown' hgrow _
  have hlt : b < w1.heap.size := (Array.getElem?_eq_some_iff.1 hbk).1
  have hb2 : w2.heap[b]? = some (.cells #[.pointer (some ⟨b, 0, none⟩), v] 44 (0, 0)) := by
    rw [hgrow.block b hlt (fun e => hne e.symm)]
    exact hbk
  have d0 : w2.cell? ⟨b, 0, none⟩ = some (.pointer (some ⟨b, 0, none⟩)) := by rw [Lib.cell_of_heap hb2]; rfl
  have d1 : w2.cell? ⟨b, 1, none⟩ = some v := by rw [Lib.cell_of_heap hb2]; rfl
  have f1 : w2.frozen? ⟨b, 1, none⟩ = false := Lib.frozen_of_heap hb2 1
  obtain ⟨ao, n', cap, rfl⟩ : ∃ ao n' cap, v' = .slice ao n' cap := by
    rcases hown'.2 with ⟨hv, _⟩ | ⟨g, cap, cur, hv, _⟩
    · exact ⟨_, _, _, hv⟩
    · exact ⟨_, _, _, hv⟩
  go_wp2
  go_ret2
  have hnb : (Value.slice ao n' cap).ownBlock ≠ some b := fun e => by
    rcases hown'.2 with ⟨e2, _⟩ | ⟨g3, c3, cur3, e2, _, hg3, _⟩
    · rw [e2] at e; cases e
    · rw [e2] at e; injection e with e; rw [show g3 = b from e, hb2] at hg3; injection hg3 with hg3; injection hg3 with _ hg3 _; exact absurd hg3 (by decide)
  refine ⟨rfl, ⟨_, _, .inr rfl, hB, Go.heap_setCell_same w2 b 1 _ _ _ hb2, ?_, hnb, fun k hk => hk.elim⟩, ?_⟩
  · refine own_on (w := w2) (by simpa [Lib.strCells_length] using hown') fun k hk => Go.RowKit.Below.heap_setCell _ _ _ _ (fun e => hnb (by rw [hk, e]))
  · exact (hb1.grown hgrow (by have := hb1.size; omega) (fun k hk => (hown.lt k hk).1)).setCell (p := ⟨b, 1, none⟩) hB _
set_option maxHeartbeats 2000000 in
theorem write30 {B b g : Nat} {ok : Nat → Prop} {bs : List Value} {x y z : Int} (w : World) (h : Bf B b ok bs w) (hlen : bs.length + 3 ≤ 140737488355328) (hBw : B ≤ w.heap.size) (hgb : g ≠ b) (g0 : w.cell? ⟨g, 0, none⟩ = some (.int .u8 x)) (g1 : w.cell? ⟨g, 1, none⟩ = some (.int .u8 y)) (g2 : w.cell? ⟨g, 2, none⟩ = some (.int .u8 z)) :
    Calls Tryd.prog 61 #[.pointer (some ⟨b, 0, none⟩), .slice (some ⟨g, 0, none⟩) 3 3] w fun e w' => e = .returned (.tuple #[.int .i64 3, .nilIface]) ∧ Bf B b ok (bs ++ [.int .u8 x, .int .u8 y, .int .u8 z]) w' ∧ Below B w w' ∧ ∀ k, ok k → w'.heap[k]? = w.heap[k]? := by
  obtain ⟨i0, hi, hz0, hz1, hz2⟩ := info_parts (show (Tryd.prog.info? 5).map (fun i => (i.zero, i.size, i.bytes)) = some (some (.int .u8 0), 1, 1) by kernel_rfl)
  obtain ⟨p, v, hp, hB, hbk0, hown0, hne, hok⟩ := h
  go_enter Tryd.func61, Tryd.ntmps61
  go_wp2_with fail
  refine (ccheck_any _ hB hp hbk0).mono ?_
  rintro e w1 ⟨rfl, hbk, hb1, hk1, -⟩
  have hown : w1.ownsRow B 5 1 v bs.length bs := own_on hown0 fun k hk => hk1 k (fun e => hne (by rw [hk, e]))
  have c0 : w1.cell? ⟨b, 0, none⟩ = some (.pointer (some ⟨b, 0, none⟩)) := by rw [Lib.cell_of_heap hbk]; rfl
  have c1 : w1.cell? ⟨b, 1, none⟩ = some v := by rw [Lib.cell_of_heap hbk]; rfl
  have e0 : w1.cell? ⟨g, 0, none⟩ = some (.int .u8 x) := by simp only [World.cell?] at g0 ⊢; rw [hk1 g hgb]; exact g0
  have e1 : w1.cell? ⟨g, 1, none⟩ = some (.int .u8 y) := by simp only [World.cell?] at g1 ⊢; rw [hk1 g hgb]; exact g1
  have e2 : w1.cell? ⟨g, 2, none⟩ = some (.int .u8 z) := by simp only [World.cell?] at g2 ⊢; rw [hk1 g hgb]; exact g2
  go_wp2_with (at_builtin; refine wpAppV _ rfl (.tmp 12) (.tmp 13) 42 rfl B 5 i0 (.int .u8 0) 1 1 Tryd.underlying42 hi hz0 hz1 hz2 rfl (by decide) v bs.length bs rfl hown ⟨g, 0, none⟩ 3 3 [.int .u8 x, .int .u8 y, .int .u8 z] rfl rfl ?c1 ?c2 ?c3 ?c4 ?c5 ?_)
  case c1 =>
    intro j u hj
    rw [addAt, Nat.zero_add]
    match j, hj with
    | 0, hj => rw [e0]; exact hj
    | 1, hj => rw [e1]; exact hj
    | 2, hj => rw [e2]; exact hj
    | j + 3, hj => simp at hj
  case c2 => intro u hu; simp at hu; rcases hu with rfl | rfl | rfl <;> rfl
  case c3 => unfold maxLen; omega
  case c4 => omega
  case c5 => have := hb1.size; omega
  intro v' w2 hown' hgrow hv'
  have hlt : b < w1.heap.size := (Array.getElem?_eq_some_iff.1 hbk).1
  have hb2 : w2.heap[b]? = some (.cells #[.pointer (some ⟨b, 0, none⟩), v] 44 (0, 0)) := by
    rw [hgrow.block b hlt (fun e => hne e.symm)]
    exact hbk
  have d0 : w2.cell? ⟨b, 0, none⟩ = some (.pointer (some ⟨b, 0, none⟩)) := by rw [Lib.cell_of_heap hb2]; rfl
  have d1 : w2.cell? ⟨b, 1, none⟩ = some v := by rw [Lib.cell_of_heap hb2]; rfl
  have f1 : w2.frozen? ⟨b, 1, none⟩ = false := Lib.frozen_of_heap hb2 1
  obtain ⟨ao, n', cap, rfl⟩ : ∃ ao n' cap, v' = .slice ao n' cap := by
    rcases hown'.2 with ⟨hv, _⟩ | ⟨g, cap, cur, hv, _⟩
    · exact ⟨_, _, _, hv⟩
    · exact ⟨_, _, _, hv⟩
  go_wp2
  go_ret2
  have hnb : (Value.slice ao n' cap).ownBlock ≠ some b := by
    rcases hv' with e | e
    · rw [e]; exact hne
    · rw [e]; simp; omega
  refine ⟨rfl, ⟨_, _, .inr rfl, hB, Go.heap_setCell_same w2 b 1 _ _ _ hb2, ?_, hnb, fun k hk => ?_⟩, ?_, fun k hk => ?_⟩
  · refine own_on (w := w2) (by simpa using hown') fun k hk => Go.RowKit.Below.heap_setCell _ _ _ _ (fun e => hnb (by rw [hk, e]))
  · obtain ⟨a1, a2, a3⟩ := hok k hk
    refine ⟨by have := hgrow.size; have h9 := hb1.size; simp at this ⊢; omega, a2, ?_⟩
    rcases hv' with e | e <;> rw [e]
    · exact a3
    · have h9 := hb1.size; simp; omega
  · exact (hb1.grown hgrow (by have := hb1.size; omega) (fun k hk => (hown.lt k hk).1)).setCell (p := ⟨b, 1, none⟩) hB _
  · obtain ⟨a1, a2, a3⟩ := hok k hk
    exact (Go.RowKit.Below.heap_setCell _ _ _ _ a2).trans ((hgrow.block k (by have h9 := hb1.size; omega) (fun e => a3 e.symm)).trans (hk1 k a2))
/-- A builder that holds bytes. -/
def Bd (B b : Nat) (ok : Nat → Prop) (l : Bs) (w : World) : Prop := Bf B b ok (Lib.byteCells l) w
theorem wbyte_any {B b : Nat} {ok : Nat → Prop} {l : Bs} {c : UInt8} (w : World) (h : Bd B b ok l w) (hlen : l.length + 1 ≤ 100000000000000) (hBw : B ≤ w.heap.size) :
    Calls Tryd.prog 57 #[.pointer (some ⟨b, 0, none⟩), .int .u8 (c.toNat : Nat)] w fun e w' => e = .returned .nilIface ∧ Bd B b ok (l ++ [c]) w' ∧ Below B w w' ∧ ∀ k, ok k → w'.heap[k]? = w.heap[k]? := by
  refine (wbyte0 w h (by rw [Lib.byteCells_length]; omega) hBw).mono fun e w' ⟨h1, h2, h3⟩ => ⟨h1, ?_, h3⟩
  unfold Bd
  rw [show Lib.byteCells (l ++ [c]) = Lib.byteCells l ++ [.int .u8 (c.toNat : Nat)] by simp [Lib.byteCells]]
  exact h2
theorem wstr_any {B b : Nat} {ok : Nat → Prop} {l m : Bs} {S : ByteArray} (w : World) (h : Bd B b ok l w) (hS : S = txt m) (hlen : l.length + m.length ≤ 100000000000000) (hBw : B ≤ w.heap.size) :
    Calls Tryd.prog 25 #[.pointer (some ⟨b, 0, none⟩), .string S] w fun e w' => e = .returned (.tuple #[.int .i64 S.size, .nilIface]) ∧ Bd B b (fun _ => False) (l ++ m) w' ∧ Below B w w' := by
  refine (wstr0 w h (by rw [Lib.byteCells_length, hS, txt_size]; omega) hBw).mono fun e w' ⟨h1, h2, h3⟩ => ⟨h1, ?_, h3⟩
  unfold Bd
  rw [show Lib.byteCells (l ++ m) = Lib.byteCells l ++ Lib.strCells S by rw [hS]; simp [Lib.byteCells, Lib.strCells, txt]]
  exact h2
theorem write3_any {B b g : Nat} {ok : Nat → Prop} {l : Bs} {x y z : UInt8} (w : World) (h : Bd B b ok l w) (hlen : l.length + 3 ≤ 100000000000000) (hBw : B ≤ w.heap.size) (hgb : g ≠ b)
    (g0 : w.cell? ⟨g, 0, none⟩ = some (.int .u8 (x.toNat : Nat))) (g1 : w.cell? ⟨g, 1, none⟩ = some (.int .u8 (y.toNat : Nat))) (g2 : w.cell? ⟨g, 2, none⟩ = some (.int .u8 (z.toNat : Nat))) :
    Calls Tryd.prog 61 #[.pointer (some ⟨b, 0, none⟩), .slice (some ⟨g, 0, none⟩) 3 3] w fun e w' => e = .returned (.tuple #[.int .i64 3, .nilIface]) ∧ Bd B b ok (l ++ [x, y, z]) w' ∧ Below B w w' ∧ ∀ k, ok k → w'.heap[k]? = w.heap[k]? := by
  refine (write30 w h (by rw [Lib.byteCells_length]; omega) hBw hgb g0 g1 g2).mono fun e w' ⟨h1, h2, h3⟩ => ⟨h1, ?_, h3⟩
  unfold Bd
  rw [show Lib.byteCells (l ++ [x, y, z]) = Lib.byteCells l ++ [.int .u8 (x.toNat : Nat), .int .u8 (y.toNat : Nat), .int .u8 (z.toNat : Nat)] by simp [Lib.byteCells]]
  exact h2
theorem string_any {B b : Nat} {ok : Nat → Prop} {l : Bs} (w : World) (h : Bd B b ok l w) (hBw : B ≤ w.heap.size) :
    Calls Tryd.prog 27 #[.pointer (some ⟨b, 0, none⟩)] w fun e w' => e = .returned (.string (txt l)) ∧ Below B w w' := by
  obtain ⟨p, v, hp, hB, hbk, hown, hne, _⟩ := h
  refine Tryd.Builder_String_any B b l w ?_ hBw
  rcases hp with rfl | rfl
  · exact .inl ⟨hB, v, hbk, hown, hne⟩
  · exact .inr ⟨hB, v, hbk, hown, hne⟩
/-- A new one. -/
theorem bd_new (w : World) : Bd w.heap.size w.heap.size (fun k => k < w.heap.size) [] (w.alloc (.cells #[.pointer none, .slice none 0 0] 44)) :=
  ⟨_, .slice none 0 0, .inl rfl, Nat.le_refl _, heap_alloc_new .., World.ownsRow_nil _ _ _ _, by simp [Value.ownBlock], fun k hk => ⟨by show k < (w.heap.push _).size; rw [Array.size_push]; omega, by omega, by simp [Value.ownBlock]⟩⟩
theorem Bd.on {B b : Nat} {ok ok' : Nat → Prop} {l : Bs} {w w' : World} (h : Bd B b ok l w) (hb : Below w.heap.size w w') (hk : ∀ k, ok' k → ok k ∨ (w.heap.size ≤ k ∧ k < w'.heap.size)) : Bd B b ok' l w' := by
  obtain ⟨p, v, hp, hB, hbk, hown, hne, hok⟩ := h
  refine ⟨p, v, hp, hB, (hb.block b (Array.getElem?_eq_some_iff.1 hbk).1).trans hbk, own_on hown fun k hk => hb.block k (hown.lt k hk).2, hne, fun k hk2 => ?_⟩
  rcases hk k hk2 with h | h
  · obtain ⟨a1, a2, a3⟩ := hok k h
    exact ⟨Nat.lt_of_lt_of_le a1 hb.size, a2, a3⟩
  · exact ⟨h.2, by have := (Array.getElem?_eq_some_iff.1 hbk).1; omega, fun e => by have := (hown.lt k e).2; omega⟩
end Pa
end Go.Proofs.YtoebhnhiljlljaaDoor
