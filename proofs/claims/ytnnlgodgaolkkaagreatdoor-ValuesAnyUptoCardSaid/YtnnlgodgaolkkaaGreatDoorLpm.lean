/- Bytes that a call appends to a row of its own, from call to call: where the row lies, and what is left as it was. -/
import Derived.Test.YtnnlgodgaolkkaaGreatDoorHd
import Derived.Test.YtnnlgodgaolkkaaGreatDoorStm
import Derived.Test.YtnnlgodgaolkkaaGreatDoorHc
import Derived.Lib.AppendStr
namespace Go.Proofs.YtnnlgodgaolkkaaGreatDoor
open Go.RowKit
namespace Va
set_option maxRecDepth 100000

/-- Between two worlds nothing that was there has turned but one's own row; which may lie anew. -/
structure BG (w w' : World) (b b' : Value) : Prop where
  os : w'.os = w.os
  tape : w'.tape = w.tape
  output : w'.output = w.output
  size : w.heap.size ≤ w'.heap.size
  block : ∀ k, k < w.heap.size → some k ≠ b.ownBlock → w'.heap[k]? = w.heap[k]?
  own : b'.ownBlock = b.ownBlock ∨ ∀ k, b'.ownBlock = some k → w.heap.size ≤ k
theorem BG.refl (w : World) (b : Value) : BG w w b b := ⟨rfl, rfl, rfl, Nat.le_refl _, fun _ _ _ => rfl, .inl rfl⟩
theorem BG.trans {w w1 w2 : World} {b b1 b2 : Value} (h : BG w w1 b b1) (h' : BG w1 w2 b1 b2) : BG w w2 b b2 := by
  refine ⟨h'.os.trans h.os, h'.tape.trans h.tape, h'.output.trans h.output, Nat.le_trans h.size h'.size, fun k hk hn => ?_, ?_⟩
  · refine (h'.block k (Nat.lt_of_lt_of_le hk h.size) ?_).trans (h.block k hk hn)
    rcases h.own with e | e
    · rw [e]; exact hn
    · intro e2; have := e k e2.symm; omega
  · rcases h'.own with e | e
    · rcases h.own with e2 | e2
      · exact .inl (e.trans e2)
      · exact .inr fun k hk => e2 k (by rw [← e]; exact hk)
    · exact .inr fun k hk => Nat.le_trans h.size (e k hk)
theorem BG.call {w w' : World} (b : Value) (h : Below w.heap.size w w') : BG w w' b b := ⟨h.os, h.tape, h.output, h.size, fun k hk _ => h.block k hk, .inl rfl⟩
theorem BG.app {w w' : World} {b b' : Value} (h : w.grownBy w' b.ownBlock) (ho : b'.ownBlock = b.ownBlock ∨ b'.ownBlock = some w.heap.size) : BG w w' b b' :=
  ⟨h.os, h.tape, h.output, h.size, fun k hk hn => h.block k hk hn, by
    rcases ho with e | e
    · exact .inl e
    · exact .inr fun k hk => by rw [e] at hk; injection hk with hk; omega⟩
theorem BG.below {w w' : World} {b b' : Value} {base : Nat} (h : BG w w' b b') (hb : ∀ k, b.ownBlock = some k → base ≤ k) (hs : base ≤ w.heap.size) : Below base w w' :=
  ⟨h.os, h.tape, h.output, h.size, fun k hk => h.block k (by omega) fun e => by have := hb k e.symm; omega⟩
/-- A row of bytes of one's own. -/
def BW (base : Nat) (w : World) (b : Value) (t : Bs) : Prop := w.ownsRow base 5 1 b t.length (bytV t) ∧ base ≤ w.heap.size
theorem BW.base {base : Nat} {w : World} {b : Value} {t : Bs} (h : BW base w b t) : ∀ k, b.ownBlock = some k → base ≤ k := fun k hk => (h.1.lt k hk).1
theorem BW.on {base : Nat} {w w' : World} {b : Value} {t : Bs} (h : BW base w b t) (hb : Below w.heap.size w w') : BW base w' b t :=
  ⟨own_on h.1 fun k hk => hb.block k (h.1.lt k hk).2, Nat.le_trans h.2 hb.size⟩
theorem BW.below {base : Nat} {w w' : World} {b b' : Value} {t : Bs} (h : BW base w b t) (hg : BG w w' b b') : Below base w w' := hg.below h.base h.2
theorem BW.nil (w : World) : BW w.heap.size w (.slice none 0 0) [] := ⟨World.ownsRow_nil _ _ _ 1, Nat.le_refl _⟩
/-- A block that is no row of bytes stays. -/
theorem BW.keepB {base : Nat} {w w' : World} {b b' : Value} {t : Bs} {h : Nat} {x y z u : Value} (hb : BW base w b t) (hg : BG w w' b b') (hh : w.heap[h]? = some (vO x y z u)) : w'.heap[h]? = some (vO x y z u) := by
  rw [hg.block h (Array.getElem?_eq_some_iff.1 hh).1 fun e => ?_]
  · exact hh
  · rcases hb.1.2 with ⟨rfl, _⟩ | ⟨g, c, cur, rfl, _, hg', _⟩
    · cases e
    · have e : h = g := by simpa [Value.ownBlock] using e
      subst e
      rw [hh] at hg'
      have := Option.some.inj hg'
      injection this with _ e2 _
      exact absurd e2 (by decide)
theorem BW.more {base : Nat} {w w' : World} {b b' : Value} {t u : Bs} (h : BW base w b t) (ho : w'.ownsRow base 5 1 b' (t.length + u.length) (bytV t ++ bytV u)) (hs : w.heap.size ≤ w'.heap.size) : BW base w' b' (t ++ u) := by
  refine ⟨?_, Nat.le_trans h.2 hs⟩
  rw [List.length_append, show bytV (t ++ u) = bytV t ++ bytV u by simp [bytV]]
  exact ho
section
variable {P : Program} (w : World)
/-- append of a text onto a row of one's own: where it lies. -/
theorem app_str_at (base : Nat) (t u ty e : TypeId) (i : TypeInfo) (ht : P.underlying t = some (.slice e)) (hu : P.underlying u = some .string) (hi : P.info? e = some i) (hz : i.zero = some (.int .u8 0)) (hsize : i.size = 1) (hby : i.bytes = 1)
    (v : Value) (n : Nat) (xs : List Value) (hown : w.ownsRow base e 1 v n xs) (s : ByteArray) (h63 : n + s.size ≤ maxLen) (hbytes : n + s.size ≤ 140737488355328) (hbase : base ≤ w.heap.size) :
    ∃ v' w', (Builtin.append_ #[t, u] ty #[v, .string s]).run P w = .ok v' w' ∧ w'.ownsRow base e 1 v' (n + s.size) (xs ++ Lib.strCells s) ∧ w.grownBy w' v.ownBlock ∧ (v'.ownBlock = v.ownBlock ∨ v'.ownBlock = some w.heap.size) := by
  obtain ⟨v', w', hr, h1, h2, h3⟩ := Lib.run_append_own_string (P := P) w base t u ty e i ht hu hi hz hsize hby v n xs hown s h63 hbytes hbase
  refine ⟨v', w', hr, h1, h2, ?_⟩
  have hsmall : n + s.size ≤ 9223372036854775807 := by simp only [maxLen] at h63; omega
  have hxl : xs.length = n := by simpa using hown.1
  rcases hown.2 with ⟨rfl, rfl⟩ | ⟨g, cap, cur, rfl, hbg, hg, hnc, hcm, hcs, htake⟩
  · by_cases hm : s.size = 0
    · rw [h3.2 ⟨rfl, hm⟩]; exact .inl rfl
    · have hr2 := run_append_nil_string (P := P) w t u ty e i (.int .u8 0) ht hu hi hz s (by omega) (by omega) (by rw [hby]; omega)
      have e9 := hr.symm.trans hr2
      injection e9 with e9 _
      rw [e9]; exact .inr rfl
  · by_cases hroom : n + s.size ≤ cap
    · have hcs' : cur.size = cap := by simpa using hcs
      have hr2 := Lib.run_append_room_string (P := P) w t u ty e i ht hu hi hsize g n cap cur hg s hroom (by omega)
      have e9 := hr.symm.trans hr2
      injection e9 with e9 _
      rw [e9]; exact .inl rfl
    · have holds : ∀ j u, xs[j]? = some u → w.cell? ((⟨g, 0, none⟩ : Addr).add j) = some u := hown.cells (g := g) rfl
      have hr2 := Lib.run_append_grow_string (P := P) w t u ty e i (.int .u8 0) ht hu hi hz ⟨g, 0, none⟩ n cap xs (by rw [hsize]; simpa using hxl) holds s (by omega) (by omega) (by rw [hby]; exact growslice_fits (by omega) (by omega))
      have e9 := hr.symm.trans hr2
      injection e9 with e9 _
      rw [e9]; exact .inr rfl
/-- The operation, for the walk: a text. -/
theorem wpAppT {ops : Array Oper} {rest : List Oper} {o : Oper} {a : Act} {Q : Exit → Act → World → Prop} (hgd : o.guard = none) (sl x : Operand) (t u : TypeId)
    (ho : o.op = .call { callee := .builtin .append, args := #[sl, x], argTypes := #[t, u] })
    (base : Nat) (i : TypeInfo) (ht : P.underlying t = some (.slice 5)) (hu : P.underlying u = some .string) (hi : P.info? 5 = some i) (hz : i.zero = some (.int .u8 0)) (hsize : i.size = 1) (hby : i.bytes = 1)
    (v : Value) (l : Bs) (hs : a.eval sl = v) (hown : BW base w v l) (s : ByteArray) (m : Bs) (hm : s = txt m) (hx : a.eval x = .string s) (hlen : l.length + m.length ≤ 1000000000)
    (h : ∀ v' w', BW base w' v' (l ++ m) → BG w w' v v' → wpList P ops Q rest (a.put o.dst v') w') : wpList P ops Q (o :: rest) a w := by
  refine wpList_plain hgd fun K hK => ?_
  have hsz : s.size = m.length := by rw [hm, txt_size]
  obtain ⟨v', w', hr, h2, h3, h4⟩ := app_str_at (P := P) w base t u o.type 5 i ht hu hi hz hsize hby v l.length (bytV l) hown.1 s (by rw [hsz]; unfold maxLen; omega) (by rw [hsz]; omega) hown.2
  unfold Oper.wp execOp
  simp only [ho, resolve, invoke, builtin, Sem.run_bind, Sem.run_pure, Result.andThen_ok, List.map_toArray, List.map_cons, List.map_nil, hs, hx, hr]
  refine hK _ _ (h v' w' (hown.more ?_ h3.size) (BG.app h3 h4))
  rw [← hsz]
  subst hm
  rw [strCells_txt] at h2
  exact h2
/-- The operation, for the walk: one byte, out of a block that the statement has laid. -/
theorem wpAppB {ops : Array Oper} {rest : List Oper} {o : Oper} {a : Act} {Q : Exit → Act → World → Prop} (hgd : o.guard = none) (sl x : Operand) (t : TypeId)
    (ho : o.op = .call { callee := .builtin .append, args := #[sl, x], argTypes := #[t, t] })
    (base : Nat) (i : TypeInfo) (ht : P.underlying t = some (.slice 5)) (hi : P.info? 5 = some i) (hz : i.zero = some (.int .u8 0)) (hsize : i.size = 1) (hby : i.bytes = 1)
    (v : Value) (l : Bs) (hs : a.eval sl = v) (hown : BW base w v l) (c : UInt8) (g : Nat) (hx : a.eval x = .slice (some ⟨g, 0, none⟩) 1 1) (hc : w.cell? ⟨g, 0, none⟩ = some (.int .u8 (c.toNat : Int))) (hlen : l.length + 1 ≤ 1000000000)
    (h : ∀ v' w', BW base w' v' (l ++ [c]) → BG w w' v v' → wpList P ops Q rest (a.put o.dst v') w') : wpList P ops Q (o :: rest) a w := by
  refine wpAppV w hgd sl x t ho base 5 i (.int .u8 0) 1 1 ht hi hz hsize hby rfl (by decide) v l.length (bytV l) hs hown.1 ⟨g, 0, none⟩ 1 1 [.int .u8 (c.toNat : Int)] hx rfl (fun j u hj => ?_) (fun u hu => ?_) (by unfold maxLen; omega) (by omega) hown.2 fun v' w' h2 h3 h4 => ?_
  · match j, hj with
    | 0, hj => obtain rfl : Value.int .u8 (c.toNat : Int) = u := by simpa using hj
               simpa [Addr.add] using hc
    | j + 1, hj => simp at hj
  · obtain rfl : u = .int .u8 (c.toNat : Int) := by simpa using hu
    rfl
  · exact h v' w' (hown.more (u := [c]) (by simpa [bytV, bt] using h2) h3.size) (BG.app h3 h4)
/-- The same at a step of a region that draws its order. -/
theorem step_appB {ops : Array Oper} {o : Oper} {a : Act} {K : Act → World → Prop} {Q : Exit → Act → World → Prop} {E : Prop} (hgd : o.guard = none) (sl x : Operand) (t : TypeId)
    (ho : o.op = .call { callee := .builtin .append, args := #[sl, x], argTypes := #[t, t] })
    (base : Nat) (i : TypeInfo) (ht : P.underlying t = some (.slice 5)) (hi : P.info? 5 = some i) (hz : i.zero = some (.int .u8 0)) (hsize : i.size = 1) (hby : i.bytes = 1)
    (v : Value) (l : Bs) (hs : a.eval sl = v) (hown : BW base w v l) (c : UInt8) (g : Nat) (hx : a.eval x = .slice (some ⟨g, 0, none⟩) 1 1) (hc : w.cell? ⟨g, 0, none⟩ = some (.int .u8 (c.toNat : Int))) (hlen : l.length + 1 ≤ 1000000000)
    (h : ∀ v' w', BW base w' v' (l ++ [c]) → BG w w' v v' → K (a.put o.dst v') w') : if Region.wanted o (yielded ops a.tmps) = true then Oper.wp P o a w K Q else E := by
  have hw : Region.wanted o (yielded ops a.tmps) = true := by simp [Region.wanted, hgd]
  rw [if_pos hw]
  obtain ⟨v', w', hrun, r1, r2, _, r3⟩ := run_append_own_at (P := P) w base t o.type 5 i (.int .u8 0) 1 1 ht hi hz hsize hby rfl (by decide) v l.length (bytV l) hown.1 ⟨g, 0, none⟩ 1 1 [.int .u8 (c.toNat : Int)] rfl (fun j u hj => by
    match j, hj with
    | 0, hj => obtain rfl : Value.int .u8 (c.toNat : Int) = u := by simpa using hj
               simpa [Addr.add] using hc
    | j + 1, hj => simp at hj) (fun u hu => by obtain rfl : u = .int .u8 (c.toNat : Int) := by simpa using hu
                                               rfl) (by unfold maxLen; omega) (by omega) hown.2
  unfold Oper.wp
  simp [execOp, ho, resolve, invoke, builtin, hs, hx, hrun, Result.andThen]
  exact h v' w' (hown.more (u := [c]) (by simpa [bytV, bt] using r1) r2.size) (BG.app r2 r3)
end
end Va
end Go.Proofs.YtnnlgodgaolkkaaGreatDoor
