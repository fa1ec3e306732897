/- A string's reader in memory: what it holds, and what keeps it. -/
import Derived.Test.YtdclhepjoifpiaaGreatDoorAo
import Derived.Test.YtdclhepjoifpiaaGreatDoorAn
import Derived.OneCell
import Derived.Lib.AppendStr
import Derived.BigQuiet
import Derived.Deep.QuietTactic
import Derived.Deep.RegionLaw
import Derived.Deep.RegionWith
import Derived.Test.YtdclhepjoifpiaaGreatDoorAm
import Derived.LoopTactic
import Derived.Outline
import Derived.Deep.LoopGhost
import Derived.Deep.DeepCutAuto
namespace Go.Proofs.YtdclhepjoifpiaaGreatDoor
open Go.RowKit

abbrev rdo (s : ByteArray) (p : Int) (v : Value) : Obj := .cells #[.string s, .int .i64 p, v] 147
/-- The reader lies in block b, of the text s, at place p; it has told t; nothing that W had has turned. -/
def RS (W : World) (b : Nat) (s : ByteArray) (w : World) (p : Int) (t : List UInt8) : Prop :=
  Below W.heap.size W w ∧ W.heap.size ≤ b ∧ ∃ v, w.heap[b]? = some (rdo s p v) ∧ w.ownsRow W.heap.size 5 1 v t.length (bytV t)
theorem rd_cells {w : World} {b : Nat} {s : ByteArray} {p : Int} {v : Value} (h : w.heap[b]? = some (rdo s p v)) :
    w.cell? ⟨b, 0, none⟩ = some (.string s) ∧ w.cell? ⟨b, 1, none⟩ = some (.int .i64 p) ∧ w.cell? ⟨b, 2, none⟩ = some v ∧ ∀ i, w.frozen? ⟨b, i, none⟩ = false := by
  simp [World.cell?, World.frozen?, h]
theorem not_own {w : World} {b base n : Nat} {s : ByteArray} {p : Int} {v u : Value} {xs : List Value} (h : w.heap[b]? = some (rdo s p v)) (hown : w.ownsRow base 5 1 u n xs) : u.ownBlock ≠ some b := by
  rcases hown.2 with ⟨rfl, _⟩ | ⟨g, cap, cur, rfl, _, hg, _⟩
  · intro h; cases h
  · intro e
    obtain rfl : g = b := by simpa [Value.ownBlock] using e
    rw [h] at hg
    injection hg with hg
    injection hg with _ h2 _
    exact absurd h2 (by decide)
section
variable {W w w' : World} {b : Nat} {s : ByteArray} {p : Int} {t : List UInt8}
theorem RS.drewN (h : RS W b s w p t) (n : Nat) : RS W b s (w.drewN n) p t := by
  obtain ⟨h1, h2, v, h3, h4⟩ := h
  exact ⟨⟨h1.os, h1.tape, h1.output, h1.size, h1.block⟩, h2, v, h3, h4⟩
theorem RS.drew (h : RS W b s w p t) : RS W b s w.drew p t := h.drewN 1
theorem RS.lt (h : RS W b s w p t) : b < w.heap.size := by
  obtain ⟨_, _, v, h3, _⟩ := h
  exact lt_of_block h3
theorem RS.grown (h : RS W b s w p t) (hg : w.grownBy w' none) : RS W b s w' p t := by
  have hl := h.lt
  obtain ⟨h1, h2, v, h3, h4⟩ := h
  exact ⟨h1.grown hg h1.size (fun _ e => by cases e), h2, v, (hg.block b hl (fun e => by cases e)).trans h3, h4.kept hg (by
    rcases h : v.ownBlock with _ | g
    · exact .inl rfl
    · exact .inr (by simp))⟩
theorem RS.alloc (h : RS W b s w p t) (o : Obj) : RS W b s (w.alloc o) p t := h.grown (World.grownBy_alloc w o none)
theorem RS.below (h : RS W b s w p t) (hb : Below w.heap.size w w') : RS W b s w' p t := h.grown ⟨hb.os, hb.tape, hb.output, hb.size, fun k hk _ => hb.block k hk⟩
theorem RS.pos (h : RS W b s w p t) (q : Int) : RS W b s (w.setCell ⟨b, 1, none⟩ (.int .i64 q)) q t := by
  obtain ⟨h1, h2, v, h3, h4⟩ := h
  exact ⟨h1.setCell h2 _, h2, v, by rw [heap_setCell_same _ _ _ _ _ _ h3]; rfl, ownsRow_setCell_other h4 (not_own h3 h4) _⟩
/-- The same, with the text's slice named. -/
def RV (W : World) (b : Nat) (s : ByteArray) (w : World) (p : Int) (t : List UInt8) (v : Value) : Prop :=
  Below W.heap.size W w ∧ W.heap.size ≤ b ∧ w.heap[b]? = some (rdo s p v) ∧ w.ownsRow W.heap.size 5 1 v t.length (bytV t)
theorem RS.rv (h : RS W b s w p t) : ∃ v, RV W b s w p t v := by
  obtain ⟨h1, h2, v, h3, h4⟩ := h
  exact ⟨v, h1, h2, h3, h4⟩
theorem RV.rs {v : Value} (h : RV W b s w p t v) : RS W b s w p t := ⟨h.1, h.2.1, v, h.2.2.1, h.2.2.2⟩
theorem RV.drewN {v : Value} (h : RV W b s w p t v) (n : Nat) : RV W b s (w.drewN n) p t v := by
  obtain ⟨h1, h2, h3, h4⟩ := h
  exact ⟨⟨h1.os, h1.tape, h1.output, h1.size, h1.block⟩, h2, h3, h4⟩
theorem RV.drew {v : Value} (h : RV W b s w p t v) : RV W b s w.drew p t v := h.drewN 1
theorem RV.grown {v : Value} (h : RV W b s w p t v) (hg : w.grownBy w' none) : RV W b s w' p t v := by
  obtain ⟨h1, h2, h3, h4⟩ := h
  exact ⟨h1.grown hg h1.size (fun _ e => by cases e), h2, (hg.block b (lt_of_block h3) (fun e => by cases e)).trans h3, h4.kept hg (by
    rcases h : v.ownBlock with _ | g
    · exact .inl rfl
    · exact .inr (by simp))⟩
theorem RV.alloc {v : Value} (h : RV W b s w p t v) (o : Obj) : RV W b s (w.alloc o) p t v := h.grown (World.grownBy_alloc w o none)
theorem RV.below {v : Value} (h : RV W b s w p t v) (hb : Below w.heap.size w w') : RV W b s w' p t v := h.grown ⟨hb.os, hb.tape, hb.output, hb.size, fun k hk _ => hb.block k hk⟩
theorem RV.cells {v : Value} (h : RV W b s w p t v) : w.cell? ⟨b, 0, none⟩ = some (.string s) ∧ w.cell? ⟨b, 1, none⟩ = some (.int .i64 p) ∧ w.cell? ⟨b, 2, none⟩ = some v ∧ ∀ i, w.frozen? ⟨b, i, none⟩ = false := rd_cells h.2.2.1
/-- More is told. -/
theorem RS.text {v v' : Value} {u : List UInt8} (h1 : Below W.heap.size W w) (h2 : W.heap.size ≤ b) (h3 : w.heap[b]? = some (rdo s p v)) (h4 : w.ownsRow W.heap.size 5 1 v t.length (bytV t))
    (hown : w'.ownsRow W.heap.size 5 1 v' (t.length + u.length) (bytV t ++ bytV u)) (hg : w.grownBy w' v.ownBlock) : (∃ A n c, v' = .slice A n c) ∧ w'.heap[b]? = some (rdo s p v) ∧ RS W b s (w'.setCell ⟨b, 2, none⟩ v') p (t ++ u) := by
  have h5 : w'.heap[b]? = some (rdo s p v) := (hg.block b (lt_of_block h3) (fun e => not_own h3 h4 e.symm)).trans h3
  refine ⟨?_, h5, (h1.grown hg h1.size (fun g e => ?_)).setCell h2 _, h2, v', by rw [heap_setCell_same _ _ _ _ _ _ h5]; rfl, ownsRow_setCell_other ?_ (not_own h5 hown) _⟩
  · rcases hown.2 with ⟨rfl, _⟩ | ⟨g', cap, cur, rfl, _⟩
    · exact ⟨_, _, _, rfl⟩
    · exact ⟨_, _, _, rfl⟩
  · rcases h4.2 with ⟨rfl, _⟩ | ⟨g', cap, cur, rfl, hb, _⟩
    · cases e
    · obtain rfl : g' = g := by simpa [Value.ownBlock] using e
      exact hb
  · have e : bytV (t ++ u) = bytV t ++ bytV u := by simp [bytV]
    rw [e, List.length_append]; exact hown
theorem RV.text {v v' : Value} {u : List UInt8} (h : RV W b s w p t v) (hown : w'.ownsRow W.heap.size 5 1 v' (t.length + u.length) (bytV t ++ bytV u)) (hg : w.grownBy w' v.ownBlock) :
    (∃ A n c, v' = .slice A n c) ∧ w'.heap[b]? = some (rdo s p v) ∧ RS W b s (w'.setCell ⟨b, 2, none⟩ v') p (t ++ u) := RS.text h.1 h.2.1 h.2.2.1 h.2.2.2 hown hg
end
/-- append within a region that draws, from a row that is known. -/
theorem step_app {P : Program} {w : World} {ops : Array Oper} {o : Oper} {a : Act} {K : Act → World → Prop} {Q : Exit → Act → World → Prop} {E : Prop} (hgd : o.guard = none) (s x : Operand) (t : TypeId)
    (ho : o.op = .call { callee := .builtin .append, args := #[s, x], argTypes := #[t, t] })
    (base : Nat) (e : TypeId) (i : TypeInfo) (z : Value) (bytes : Nat) (h1 : P.underlying t = some (.slice e)) (h2 : P.info? e = some i) (h3 : i.zero = some z) (h4 : i.size = 1) (h5 : i.bytes = bytes) (h6 : z.cells.size = 1)
    (v : Value) (n : Nat) (xs : List Value) (hs : a.eval s = v) (hown : w.ownsRow base e 1 v n xs) (ao : Option Addr) (m c : Nat) (B : Nat) (l : List UInt8) (hx : a.eval x = .slice ao m c) (hm : m = l.length) (hA : Byt w B ao l) (hnone : ao = none → c = 0)
    (h63 : n + m ≤ maxLen) (hbytes : (n + m) * bytes ≤ 140737488355328) (hbase : base ≤ w.heap.size)
    (hK : ∀ v' w', w'.ownsRow base e 1 v' (n + m) (xs ++ bytV l) → w.grownBy w' v.ownBlock → K (a.put o.dst v') w') :
    if Region.wanted o (yielded ops a.tmps) = true then Oper.wp P o a w K Q else E := by
  have hw : Region.wanted o (yielded ops a.tmps) = true := by simp [Region.wanted, hgd]
  rw [if_pos hw]
  cases ao with
  | some ad =>
    obtain ⟨v', w', hrun, r1, r2, _, r3⟩ := run_append_own_at (P := P) w base t o.type e i z 1 bytes h1 h2 h3 h4 h5 h6 (by omega) v n xs hown ad m c (bytV l) (by rw [bytV_len]; omega) (bytV_cells hA) (bytV_one l) h63 hbytes hbase
    unfold Oper.wp
    simp [execOp, ho, resolve, invoke, builtin, hs, hx, hrun, Result.andThen]
    exact hK v' w' r1 r2
  | none =>
    obtain rfl := byt_none hA
    obtain rfl : m = 0 := hm
    obtain rfl := hnone rfl
    have hrun := run_append_owned_none (P := P) w base t o.type e i 1 h1 h2 _ n xs hown
    unfold Oper.wp
    simp [execOp, ho, resolve, invoke, builtin, hs, hx, hrun, Result.andThen]
    exact hK v w (by simpa [bytV] using hown) (World.grownBy.refl _ _)
end Go.Proofs.YtdclhepjoifpiaaGreatDoor
/- The reader's take: a byte, if it stands here. -/
namespace Go.Proofs.YtdclhepjoifpiaaGreatDoor
open Go.RowKit

section
variable {W w : World} {b : Nat} {s : ByteArray} {p : Nat} {t l : List UInt8} {c : Int}
theorem take_yes (h : RS W b s w p t) (hs : s = txt l) (hl : l.length ≤ 1000000) (hp : p < l.length) (hc : bt l p = c) :
    Calls Tryz.prog 102 #[.pointer (some ⟨b, 0, none⟩), .int .u8 c] w fun e w' => e = .returned (.bool true) ∧ RS W b s w' ((p + 1 : Nat) : Int) t := by
  have HR := Lib.hid h
  obtain ⟨_, _, v, h3, _⟩ := h
  obtain ⟨c0, c1, c2, cf⟩ := rd_cells h3
  have f1 := cf 1
  have hsz : s.size = l.length := by rw [hs, txt_size]
  have hx := txt_at hs (k := p)
  have hz : p < s.size := by omega
  have hs1 : s.size ≤ 1000000 := by omega
  have g1 : ((p : Int) == (s.size : Int)) = false := by simp; omega
  have g2 : (bt l p != c) = false := by simp [hc]
  clear hs hl hp hc h3 cf hsz
  go_enter Tryz.func102, Tryz.ntmps102
  go_wp2_with fail
  go_quiet (fail)
  go_wp2_with fail
  go_ret
  exact ⟨rfl, by have := (HR.out.drewN nq).pos ((p + 1 : Nat) : Int); simpa using this⟩
theorem take_end (h : RS W b s w p t) (hs : s = txt l) (hp : p = l.length) :
    Calls Tryz.prog 102 #[.pointer (some ⟨b, 0, none⟩), .int .u8 c] w fun e w' => e = .returned (.bool false) ∧ RS W b s w' p t := by
  have HR := Lib.hid h
  obtain ⟨_, _, v, h3, _⟩ := h
  obtain ⟨c0, c1, c2, cf⟩ := rd_cells h3
  have hsz : s.size = l.length := by rw [hs, txt_size]
  have g1 : ((p : Int) == (s.size : Int)) = true := by simp; omega
  clear hs hp h3 cf hsz
  go_enter Tryz.func102, Tryz.ntmps102
  go_wp2_with fail
  go_quiet (fail)
  go_wp2_with fail
  go_ret
  exact ⟨rfl, HR.out.drewN nq⟩
theorem take_no (h : RS W b s w p t) (hs : s = txt l) (hl : l.length ≤ 1000000) (hp : p < l.length) (hc : bt l p ≠ c) :
    Calls Tryz.prog 102 #[.pointer (some ⟨b, 0, none⟩), .int .u8 c] w fun e w' => e = .returned (.bool false) ∧ RS W b s w' p t := by
  have HR := Lib.hid h
  obtain ⟨_, _, v, h3, _⟩ := h
  obtain ⟨c0, c1, c2, cf⟩ := rd_cells h3
  have hsz : s.size = l.length := by rw [hs, txt_size]
  have hx := txt_at hs (k := p)
  have hz : p < s.size := by omega
  have hs1 : s.size ≤ 1000000 := by omega
  have g1 : ((p : Int) == (s.size : Int)) = false := by simp; omega
  have g2 : (bt l p != c) = true := by simp [hc]
  clear hs hl hp hc h3 cf hsz
  go_enter Tryz.func102, Tryz.ntmps102
  go_wp2_with fail
  go_quiet (fail)
  go_wp2_with fail
  go_ret
  exact ⟨rfl, HR.out.drewN nq⟩
/-- Whether the byte is taken, and where it then stands. -/
def tkB (l : List UInt8) (p : Nat) (c : Int) : Bool := decide (p < l.length ∧ bt l p = c)
theorem take_any (h : RS W b s w p t) (hs : s = txt l) (hl : l.length ≤ 1000000) (hp : p ≤ l.length) (c : Int) {B : Bool} (hB : B = tkB l p c) :
    Calls Tryz.prog 102 #[.pointer (some ⟨b, 0, none⟩), .int .u8 c] w fun e w' => e = .returned (.bool B) ∧ RS W b s w' ((if B = true then p + 1 else p : Nat) : Int) t := by
  by_cases h1 : p < l.length
  · by_cases h2 : bt l p = c
    · have e : B = true := by rw [hB, tkB]; simp [h1, h2]
      subst e
      exact take_yes h hs hl h1 h2
    · have e : B = false := by rw [hB, tkB]; simp [h2]
      subst e
      exact take_no h hs hl h1 h2
  · have e : B = false := by rw [hB, tkB]; simp [h1]
    subst e
    have hp2 : p = l.length := by omega
    exact take_end h hs hp2
end
end Go.Proofs.YtdclhepjoifpiaaGreatDoor
/- The small functions of strings: digits, plain bytes, halves of pairs. -/
namespace Go.Proofs.YtdclhepjoifpiaaGreatDoor
open Go.RowKit

theorem same_symm {P : Program} {f : FuncId} {args : Array Value} {w : World} {v : Value} (h : Calls P f args w fun e w' => e = .returned v ∧ w = w') : Calls P f args w fun e w' => e = .returned v ∧ w' = w :=
  h.mono fun _ _ ⟨a, b⟩ => ⟨a, b.symm⟩
/-- A digit's value; -1: none. -/
def dgI (c : Int) : Int := if 48 ≤ c ∧ c ≤ 57 then c - 48 else if 97 ≤ c ∧ c ≤ 102 then c - 87 else if 65 ≤ c ∧ c ≤ 70 then c - 55 else -1
theorem dgI_dig (c : UInt8) : dgI (c.toNat : Int) = match Qu.dig c with | some d => (d : Int) | none => -1 := by
  unfold dgI Qu.dig
  by_cases a : 48 ≤ c.toNat ∧ c.toNat ≤ 57
  · rw [if_pos (by omega), if_pos a]; simp only; omega
  rw [if_neg (by omega), if_neg a]
  by_cases a : 97 ≤ c.toNat ∧ c.toNat ≤ 102
  · rw [if_pos (by omega), if_pos a]; simp only; omega
  rw [if_neg (by omega), if_neg a]
  by_cases a : 65 ≤ c.toNat ∧ c.toNat ≤ 70
  · rw [if_pos (by omega), if_pos a]; simp only; omega
  rw [if_neg (by omega), if_neg a]
theorem dgI_bd (c : Int) : -1 ≤ dgI c ∧ dgI c ≤ 15 := by unfold dgI; repeat' split
                                                         all_goals omega
theorem sub8 {c k : Int} (h : k ≤ c) (h0 : 0 ≤ k) (h1 : c ≤ 255) : IntKind.u8.wrap (c - k) = c - k := by rw [IntKind.wrap_u8']; omega
theorem digit_any (c : Int) (h0 : 0 ≤ c) (h1 : c ≤ 255) (w : World) : Calls Tryz.prog 132 #[.int .u8 c] w fun e w' => e = .returned (.int .i64 (dgI c)) ∧ w = w' := by
  by_cases a1 : 48 ≤ c
  · by_cases a2 : c ≤ 57
    · have E := Lib.hid (show dgI c = c - 48 by rw [dgI, if_pos (by omega)])
      have hw := sub8 (c := c) (k := 48) (by omega) (by omega) h1
      have hw2 := h1
      go_enter Tryz.func132, Tryz.ntmps132
      go_wp2_with fail
      go_ret
      exact ⟨ret_int (by rw [E.out]; try omega), rfl⟩
    · by_cases b1 : 97 ≤ c
      · by_cases b2 : c ≤ 102
        · have E := Lib.hid (show dgI c = c - 87 by rw [dgI, if_neg (by omega), if_pos (by omega)])
          have hw := sub8 (c := c) (k := 97) (by omega) (by omega) h1
          have hw2 := h1
          go_enter Tryz.func132, Tryz.ntmps132
          go_wp2_with fail
          go_ret
          exact ⟨ret_int (by rw [E.out]; try omega), rfl⟩
        · have E := Lib.hid (show dgI c = -1 by rw [dgI, if_neg (by omega), if_neg (by omega), if_neg (by omega)])
          go_enter Tryz.func132, Tryz.ntmps132
          go_wp2_with fail
          go_ret
          exact ⟨ret_int (by rw [E.out]; try omega), rfl⟩
      · by_cases d1 : 65 ≤ c
        · by_cases d2 : c ≤ 70
          · have E := Lib.hid (show dgI c = c - 55 by rw [dgI, if_neg (by omega), if_neg (by omega), if_pos (by omega)])
            have hw := sub8 (c := c) (k := 65) (by omega) (by omega) h1
            have hw2 := h1
            go_enter Tryz.func132, Tryz.ntmps132
            go_wp2_with fail
            go_ret
            exact ⟨ret_int (by rw [E.out]; try omega), rfl⟩
          · have E := Lib.hid (show dgI c = -1 by rw [dgI, if_neg (by omega), if_neg (by omega), if_neg (by omega)])
            go_enter Tryz.func132, Tryz.ntmps132
            go_wp2_with fail
            go_ret
            exact ⟨ret_int (by rw [E.out]; try omega), rfl⟩
        · have E := Lib.hid (show dgI c = -1 by rw [dgI, if_neg (by omega), if_neg (by omega), if_neg (by omega)])
          go_enter Tryz.func132, Tryz.ntmps132
          go_wp2_with fail
          go_ret
          exact ⟨ret_int (by rw [E.out]; try omega), rfl⟩
  · have E := Lib.hid (show dgI c = -1 by rw [dgI, if_neg (by omega), if_neg (by omega), if_neg (by omega)])
    go_enter Tryz.func132, Tryz.ntmps132
    go_wp2_with fail
    go_ret
    exact ⟨ret_int (by rw [E.out]; try omega), rfl⟩
theorem rdigit_any (c : Int) (h0 : 0 ≤ c) (h1 : c ≤ 255) (w : World) : Calls Tryz.prog 95 #[.int .u8 c] w fun e w' => e = .returned (.int .i64 (dgI c)) ∧ w = w' := by
  by_cases a1 : 48 ≤ c
  · by_cases a2 : c ≤ 57
    · have E := Lib.hid (show dgI c = c - 48 by rw [dgI, if_pos (by omega)])
      have hw := sub8 (c := c) (k := 48) (by omega) (by omega) h1
      have hw2 := h1
      go_enter Tryz.func95, Tryz.ntmps95
      go_wp2_with fail
      go_ret
      exact ⟨ret_int (by rw [E.out]; try omega), rfl⟩
    · by_cases b1 : 97 ≤ c
      · by_cases b2 : c ≤ 102
        · have E := Lib.hid (show dgI c = c - 87 by rw [dgI, if_neg (by omega), if_pos (by omega)])
          have hw := sub8 (c := c) (k := 97) (by omega) (by omega) h1
          have hw2 := h1
          go_enter Tryz.func95, Tryz.ntmps95
          go_wp2_with fail
          go_ret
          exact ⟨ret_int (by rw [E.out]; try omega), rfl⟩
        · have E := Lib.hid (show dgI c = -1 by rw [dgI, if_neg (by omega), if_neg (by omega), if_neg (by omega)])
          go_enter Tryz.func95, Tryz.ntmps95
          go_wp2_with fail
          go_ret
          exact ⟨ret_int (by rw [E.out]; try omega), rfl⟩
      · by_cases d1 : 65 ≤ c
        · by_cases d2 : c ≤ 70
          · have E := Lib.hid (show dgI c = c - 55 by rw [dgI, if_neg (by omega), if_neg (by omega), if_pos (by omega)])
            have hw := sub8 (c := c) (k := 65) (by omega) (by omega) h1
            have hw2 := h1
            go_enter Tryz.func95, Tryz.ntmps95
            go_wp2_with fail
            go_ret
            exact ⟨ret_int (by rw [E.out]; try omega), rfl⟩
          · have E := Lib.hid (show dgI c = -1 by rw [dgI, if_neg (by omega), if_neg (by omega), if_neg (by omega)])
            go_enter Tryz.func95, Tryz.ntmps95
            go_wp2_with fail
            go_ret
            exact ⟨ret_int (by rw [E.out]; try omega), rfl⟩
        · have E := Lib.hid (show dgI c = -1 by rw [dgI, if_neg (by omega), if_neg (by omega), if_neg (by omega)])
          go_enter Tryz.func95, Tryz.ntmps95
          go_wp2_with fail
          go_ret
          exact ⟨ret_int (by rw [E.out]; try omega), rfl⟩
  · have E := Lib.hid (show dgI c = -1 by rw [dgI, if_neg (by omega), if_neg (by omega), if_neg (by omega)])
    go_enter Tryz.func95, Tryz.ntmps95
    go_wp2_with fail
    go_ret
    exact ⟨ret_int (by rw [E.out]; try omega), rfl⟩
/-- May a byte stand for itself? -/
def plnI (c : Int) : Bool := decide (32 ≤ c ∧ c ≠ 34 ∧ c ≠ 92)
theorem plain_any (c : Int) (w : World) : Calls Tryz.prog 109 #[.int .u8 c] w fun e w' => e = .returned (.bool (plnI c)) ∧ w = w' := by
  by_cases a : 32 ≤ c
  · by_cases b : c = 34
    · subst b
      go_enter Tryz.func109, Tryz.ntmps109
      go_wp2_with fail
      go_ret
      exact ⟨ret_bool (by simp [plnI]), rfl⟩
    · by_cases d : c = 92
      · subst d
        go_enter Tryz.func109, Tryz.ntmps109
        go_wp2_with fail
        go_ret
        exact ⟨ret_bool (by simp [plnI]), rfl⟩
      · have g1 : (c != 34) = true := by simp [b]
        have g2 : (c != 92) = true := by simp [d]
        go_enter Tryz.func109, Tryz.ntmps109
        go_wp2_with fail
        go_ret
        exact ⟨ret_bool (by simp [plnI, a, b, d]), rfl⟩
  · go_enter Tryz.func109, Tryz.ntmps109
    go_wp2_with fail
    go_ret
    exact ⟨ret_bool (by simp [plnI]; omega), rfl⟩
/-- Is a number a high one, a low one? -/
def hiI (n : Int) : Bool := decide (55296 ≤ n ∧ n < 56320)
def loI (n : Int) : Bool := decide (56320 ≤ n ∧ n < 57344)
theorem high_any (n : Int) (w : World) : Calls Tryz.prog 120 #[.int .i64 n] w fun e w' => e = .returned (.bool (hiI n)) ∧ w = w' := by
  by_cases a : 55296 ≤ n
  · go_enter Tryz.func120, Tryz.ntmps120
    go_wp2_with fail
    go_ret
    exact ⟨ret_bool (by simp [hiI, a]), rfl⟩
  · go_enter Tryz.func120, Tryz.ntmps120
    go_wp2_with fail
    go_ret
    exact ⟨ret_bool (by simp [hiI]; omega), rfl⟩
theorem low_any (n : Int) (w : World) : Calls Tryz.prog 122 #[.int .i64 n] w fun e w' => e = .returned (.bool (loI n)) ∧ w = w' := by
  by_cases a : 56320 ≤ n
  · go_enter Tryz.func122, Tryz.ntmps122
    go_wp2_with fail
    go_ret
    exact ⟨ret_bool (by simp [loI, a]), rfl⟩
  · go_enter Tryz.func122, Tryz.ntmps122
    go_wp2_with fail
    go_ret
    exact ⟨ret_bool (by simp [loI]; omega), rfl⟩
theorem hiI_high (n : Nat) : hiI n = Qu.high n := by
  unfold hiI Qu.high; rw [decide_eq_decide]; omega
theorem loI_low (n : Nat) : loI n = Qu.low n := by
  unfold loI Qu.low; rw [decide_eq_decide]; omega
end Go.Proofs.YtdclhepjoifpiaaGreatDoor
/- The reader's stretch of plain bytes. -/
namespace Go.Proofs.YtdclhepjoifpiaaGreatDoor
open Go.RowKit

/-- Where the plain bytes from k on end. -/
def prn (l : List UInt8) (k : Nat) : Nat := if k < l.length ∧ plnI (bt l k) = true then prn l (k + 1) else k
termination_by l.length - k
theorem prn_on {l : List UInt8} {k : Nat} (h1 : k < l.length) (h2 : plnI (bt l k) = true) : prn l k = prn l (k + 1) := by rw [prn, if_pos ⟨h1, h2⟩]
theorem prn_end {l : List UInt8} {k : Nat} (h : ¬ (k < l.length ∧ plnI (bt l k) = true)) : prn l k = k := by rw [prn, if_neg h]
theorem prn_ge (l : List UInt8) (k : Nat) : k ≤ prn l k := by
  rw [prn]; split
  · have := prn_ge l (k + 1); omega
  · exact Nat.le_refl _
termination_by l.length - k
theorem plain_is {c : Int} {x : Bool} (hx : x = plnI c) (w : World) : Calls Tryz.prog 109 #[.int .u8 c] w fun e w' => e = .returned (.bool x) ∧ w = w' := hx ▸ plain_any c w
theorem strCells_txt (l : List UInt8) : Lib.strCells (txt l) = bytV l := by
  simp [Lib.strCells, bytV, txt]

/-- append of a text within a region that draws. -/
theorem step_str {P : Program} {w : World} {ops : Array Oper} {o : Oper} {a : Act} {K : Act → World → Prop} {Q : Exit → Act → World → Prop} {E : Prop} (hgd : o.guard = none) (sl x : Operand) (t u : TypeId)
    (ho : o.op = .call { callee := .builtin .append, args := #[sl, x], argTypes := #[t, u] })
    (base : Nat) (e : TypeId) (i : TypeInfo) (ht : P.underlying t = some (.slice e)) (hu : P.underlying u = some .string) (hi : P.info? e = some i) (hz : i.zero = some (.int .u8 0)) (hsize : i.size = 1) (hby : i.bytes = 1)
    (v : Value) (n : Nat) (xs : List Value) (hs : a.eval sl = v) (hown : w.ownsRow base e 1 v n xs) (s : ByteArray) (hx : a.eval x = .string s)
    (h63 : n + s.size ≤ maxLen) (hbytes : n + s.size ≤ 140737488355328) (hbase : base ≤ w.heap.size)
    (h : ∀ v' w', w'.ownsRow base e 1 v' (n + s.size) (xs ++ Lib.strCells s) → w.grownBy w' v.ownBlock → K (a.put o.dst v') w') :
    if Region.wanted o (yielded ops a.tmps) = true then Oper.wp P o a w K Q else E := by
  have hw : Region.wanted o (yielded ops a.tmps) = true := by simp [Region.wanted, hgd]
  rw [if_pos hw]
  obtain ⟨v', w', hr, h2, h3, _⟩ := Lib.run_append_own_string (P := P) w base t u o.type e i ht hu hi hz hsize hby v n xs hown s h63 hbytes hbase
  unfold Oper.wp
  simp [execOp, ho, resolve, invoke, builtin, hs, hx, hr, Result.andThen]
  exact h v' w' h2 h3
/-- Where the reader stands. -/
def posOf (b : Nat) (w : World) : Nat := match w.cell? ⟨b, 1, none⟩ with | some v => (intOf v).toNat | none => 0
theorem RS.posOf {W w : World} {b : Nat} {s : ByteArray} {p : Nat} {t : List UInt8} (h : RS W b s w p t) : posOf b w = p := by
  obtain ⟨_, _, v, h3, _⟩ := h
  obtain ⟨_, c1, _⟩ := rd_cells h3
  simp [Proofs.YtdclhepjoifpiaaGreatDoor.posOf, c1, intOf]
section
variable {W w : World} {b : Nat} {s : ByteArray} {p : Nat} {t l : List UInt8}
set_option maxHeartbeats 1000000 in
theorem stretch_any (h : RS W b s w p t) (hs : s = txt l) (hl : l.length ≤ 1000000) (hp : p ≤ l.length) (ht : t.length ≤ 4 * p) :
    Calls Tryz.prog 103 #[.pointer (some ⟨b, 0, none⟩)] w fun e w' => e = .returned (.bool (decide (p < prn l p))) ∧ RS W b s w' (prn l p) (t ++ (l.take (prn l p)).drop p) := by
  obtain ⟨i0, hi, hz0, hz1, hz2⟩ := info_parts (show (Tryz.prog.info? 5).map (fun i => (i.zero, i.size, i.bytes)) = some (some (.int .u8 0), 1, 1) by kernel_rfl)
  have R0 := h
  have HS := Lib.hid hs
  have HL := Lib.hid hl
  have HP := Lib.hid hp
  have HT := Lib.hid ht
  obtain ⟨_, _, v0, h30, _⟩ := h
  obtain ⟨_, c10, _, _⟩ := rd_cells h30
  clear hs hl hp ht h30
  go_enter Tryz.func103, Tryz.ntmps103
  go_wp2_with fail
  clear c10
  go_loopw [] (fun wr => ∃ k : Nat, p ≤ k ∧ k ≤ l.length ∧ prn l p = prn l k ∧ RS W b s wr k t) (fun wr => s.size - posOf b wr)
  case atStart => exact ⟨p, Nat.le_refl _, HP.out, rfl, R0⟩
  case round =>
    obtain ⟨k, hpk, hk, hkr, R⟩ := hrel
    clear R0
    have HR := Lib.hid R
    have HK := Lib.hid hkr
    have hsz : s.size = l.length := by rw [HS.out, txt_size]
    obtain ⟨r1, r2, v, h3, h4⟩ := R
    obtain ⟨c0, c1, c2, cf⟩ := rd_cells h3
    have f1 := cf 1
    have hm : s.size ≤ 1000000 := by have := HL.out; omega
    have HK2 := Lib.hid hk
    have HB := Lib.hid hpk
    have H3 := Lib.hid h3
    have H4 := Lib.hid h4
    have H1 := Lib.hid r1
    clear hkr h3 cf hk h4 r1
    by_cases hq : k < l.length
    · have hx := txt_at HS.out (k := k)
      have hz : k < s.size := by omega
      obtain ⟨y, HY⟩ : ∃ y, Hid (y = bt l k) := ⟨_, rfl⟩
      rw [← HY.out] at hx
      obtain ⟨x, HX⟩ : ∃ x, Hid (x = plnI y) := ⟨_, rfl⟩
      cases x
      · have E := Lib.hid (prn_end (l := l) (k := k) (by rw [← HY.out, ← HX.out]; simp))
        clear hq hpk hsz
        go_wp2_with fail
        go_quiet (first | (go_at_call 109; refine (plain_is HX.out _).mono ?_; rintro _ _ ⟨rfl, rfl⟩; exact ⟨rfl, _, rfl⟩))
        go_wp2_with fail
        have R2 := HR.out.drewN nq
        obtain ⟨w2, HW2⟩ : ∃ w2, w2 = wr.drewN nq := ⟨_, rfl⟩
        rw [← HW2] at R2 ⊢
        clear HW2 c0 c1 c2 f1 H3 H4 H1 r2
        have HK3 := Lib.hid (show prn l p = k by rw [HK.out, E.out])
        have HU := Lib.hid (show s.extract p k = txt ((l.take k).drop p) by rw [HS.out, txt_cut])
        have hul : ((l.take k).drop p).length ≤ 1000000 := by simp; have := HL.out; omega
        have hbb : (p : Int) ≤ k := by have := HB.out; omega
        have htl : t.length ≤ 4000000 := by have := HT.out; have := HP.out; have := HL.out; omega
        have hks : (k : Int) ≤ s.size := by have := HK2.out; have := HS.out; rw [this, txt_size]; omega
        have hb1 : W.heap.size ≤ w2.heap.size := R2.1.size
        obtain ⟨r1, r2, v, h3, h4⟩ := R2
        obtain ⟨c0, c1, c2, cf⟩ := rd_cells h3
        have f2 := cf 2
        have H3 := Lib.hid h3
        have H4 := Lib.hid h4
        have H1 := Lib.hid r1
        have H2 := Lib.hid r2
        clear h3 h4 r1 r2 cf E
        go_region_law (first | (refine step_str (w := w2.drew) rfl (.tmp 41) (.tmp 51) 22 9 rfl W.heap.size 5 i0 Tryz.underlying22 Tryz.underlying9 hi hz0 hz1 hz2 v t.length (bytV t) rfl H4.out.drew (s.extract p k) rfl (by rw [HU.out, txt_size]; unfold maxLen; omega) (by rw [HU.out, txt_size]; omega) hb1 ?_; intro v' w3 hown3 hg3; rw [HU.out, strCells_txt, txt_size] at hown3; obtain ⟨⟨A', n', cp', rfl⟩, h5, R3⟩ := RS.text (w := w2) (p := k) H1.out H2.out H3.out H4.out hown3 (gDrew hg3); obtain ⟨c0', c1', c2', cf'⟩ := rd_cells h5; have f2' := cf' 2; clear cf' h5 hown3 hg3))
        all_goals (have HR3 := Lib.hid R3; obtain ⟨_, _, v9, h9, _⟩ := R3; obtain ⟨_, d1, _, _⟩ := rd_cells h9; clear h9)
        all_goals go_wp2_with fail
        all_goals go_ret
        all_goals exact ⟨by rw [HK3.out]; rfl, by rw [HK3.out]; exact HR3.out⟩
      · have E := Lib.hid (prn_on (l := l) (k := k) hq (by rw [← HY.out, ← HX.out]))
        have hq1 : k + 1 ≤ l.length := hq
        clear hq hpk hsz
        go_wp2_with fail
        go_quiet (first | (go_at_call 109; refine (plain_is HX.out _).mono ?_; rintro _ _ ⟨rfl, rfl⟩; exact ⟨rfl, _, rfl⟩))
        go_wp2_with fail
        go_roundw
        case rel =>
          refine ⟨k + 1, by have := HB.out; omega, hq1, by rw [HK.out, E.out], ?_⟩
          have := (HR.out.drewN nq).pos ((k + 1 : Nat) : Int)
          simpa using this
        case measure =>
          have := (HR.out.drewN nq).pos ((k + 1 : Nat) : Int)
          rw [HR.out.posOf]
          have := RS.posOf this
          simp at this
          rw [this]; omega
    · have E := Lib.hid (prn_end (l := l) (k := k) (by simp [hq]))
      have g1 : decide (k < s.size) = false := decide_eq_false (by omega)
      clear hq hpk hsz
      go_wp2_with fail
      go_quiet (fail)
      go_wp2_with fail
      have R2 := HR.out.drewN nq
      obtain ⟨w2, HW2⟩ : ∃ w2, w2 = wr.drewN nq := ⟨_, rfl⟩
      rw [← HW2] at R2 ⊢
      clear HW2 c0 c1 c2 f1 H3 H4 H1 r2
      have HK3 := Lib.hid (show prn l p = k by rw [HK.out, E.out])
      have HU := Lib.hid (show s.extract p k = txt ((l.take k).drop p) by rw [HS.out, txt_cut])
      have hul : ((l.take k).drop p).length ≤ 1000000 := by simp; have := HL.out; omega
      have hbb : (p : Int) ≤ k := by have := HB.out; omega
      have htl : t.length ≤ 4000000 := by have := HT.out; have := HP.out; have := HL.out; omega
      have hks : (k : Int) ≤ s.size := by have := HK2.out; have := HS.out; rw [this, txt_size]; omega
      have hb1 : W.heap.size ≤ w2.heap.size := R2.1.size
      obtain ⟨r1, r2, v, h3, h4⟩ := R2
      obtain ⟨c0, c1, c2, cf⟩ := rd_cells h3
      have f2 := cf 2
      have H3 := Lib.hid h3
      have H4 := Lib.hid h4
      have H1 := Lib.hid r1
      have H2 := Lib.hid r2
      clear h3 h4 r1 r2 cf E
      go_region_law (first | (refine step_str (w := w2.drew) rfl (.tmp 41) (.tmp 51) 22 9 rfl W.heap.size 5 i0 Tryz.underlying22 Tryz.underlying9 hi hz0 hz1 hz2 v t.length (bytV t) rfl H4.out.drew (s.extract p k) rfl (by rw [HU.out, txt_size]; unfold maxLen; omega) (by rw [HU.out, txt_size]; omega) hb1 ?_; intro v' w3 hown3 hg3; rw [HU.out, strCells_txt, txt_size] at hown3; obtain ⟨⟨A', n', cp', rfl⟩, h5, R3⟩ := RS.text (w := w2) (p := k) H1.out H2.out H3.out H4.out hown3 (gDrew hg3); obtain ⟨c0', c1', c2', cf'⟩ := rd_cells h5; have f2' := cf' 2; clear cf' h5 hown3 hg3))
      all_goals (have HR3 := Lib.hid R3; obtain ⟨_, _, v9, h9, _⟩ := R3; obtain ⟨_, d1, _, _⟩ := rd_cells h9; clear h9)
      all_goals go_wp2_with fail
      all_goals go_ret
      all_goals exact ⟨by rw [HK3.out]; rfl, by rw [HK3.out]; exact HR3.out⟩
end
end Go.Proofs.YtdclhepjoifpiaaGreatDoor
/- The reader's four digits, and the low half behind a high one. -/
namespace Go.Proofs.YtdclhepjoifpiaaGreatDoor
open Go.RowKit

def hxS (k : Nat) : Nat ⊕ (Nat × List UInt8) → Nat ⊕ (Nat × List UInt8)
  | .inl j => .inl (k + j)
  | .inr x => .inr x
theorem hxS_hxS (a c : Nat) (x : Nat ⊕ (Nat × List UInt8)) : hxS a (hxS c x) = hxS (a + c) x := by cases x <;> simp [hxS, Nat.add_assoc]
theorem drop_at {l : List UInt8} {q : Nat} (h : q < l.length) : ∃ c, l.drop q = c :: l.drop (q + 1) ∧ bt l q = (c.toNat : Int) :=
  ⟨l[q], List.drop_eq_getElem_cons h, by simp [bt, h]⟩
theorem hx_step {l : List UInt8} {q m n : Nat} (h : q < l.length) (hd : 0 ≤ dgI (bt l q)) : Qu.hx (m + 1) n (l.drop q) = hxS 1 (Qu.hx m (16 * n + (dgI (bt l q)).toNat) (l.drop (q + 1))) := by
  obtain ⟨c, hc, hb⟩ := drop_at h
  have e := dgI_dig c
  rw [hb] at hd ⊢
  rw [hc, Qu.hx]
  cases hg : Qu.dig c with
  | none => rw [hg] at e; simp only at e; omega
  | some d =>
    rw [hg] at e
    simp only at e
    rw [e]
    simp only [Int.toNat_natCast]
    cases Qu.hx m (16 * n + d) (l.drop (q + 1)) <;> simp [hxS, Nat.add_comm]
theorem hx_none {l : List UInt8} {q m n : Nat} (h : q < l.length) (hd : dgI (bt l q) < 0) : Qu.hx (m + 1) n (l.drop q) = .inl 0 := by
  obtain ⟨c, hc, hb⟩ := drop_at h
  have e := dgI_dig c
  rw [hb] at hd
  rw [hc, Qu.hx]
  cases hg : Qu.dig c with
  | none => rfl
  | some d => rw [hg] at e; simp only at e; omega
theorem hx_off {l : List UInt8} {q m n : Nat} (h : l.length ≤ q) : Qu.hx (m + 1) n (l.drop q) = .inl 0 := by
  rw [List.drop_eq_nil_of_le h]; rfl
theorem digit_is {c x : Int} (hx : x = dgI c) (h0 : 0 ≤ c) (h1 : c ≤ 255) (w : World) : Calls Tryz.prog 132 #[.int .u8 c] w fun e w' => e = .returned (.int .i64 x) ∧ w = w' := hx ▸ digit_any c h0 h1 w

def NumPost (W : World) (b : Nat) (s : ByteArray) (l : List UInt8) (p : Nat) (t : List UInt8) (e : Ending) (w' : World) : Prop :=
  (∃ j, Qu.hx 4 0 (l.drop p) = .inl j ∧ e = .returned (.tuple #[.int .i64 0, .bool false]) ∧ RS W b s w' ((p + j : Nat) : Int) t) ∨
  (∃ n : Nat, Qu.hx 4 0 (l.drop p) = .inr (n, l.drop (p + 4)) ∧ p + 4 ≤ l.length ∧ n < 65536 ∧ e = .returned (.tuple #[.int .i64 n, .bool true]) ∧ RS W b s w' ((p + 4 : Nat) : Int) t)
def NRel (W : World) (b : Nat) (s : ByteArray) (l : List UInt8) (p : Nat) (t : List UInt8) (k n : Nat) (wr : World) : Prop :=
  p + k ≤ l.length ∧ n < 16 ^ k ∧ Qu.hx 4 0 (l.drop p) = hxS k (Qu.hx (4 - k) n (l.drop (p + k))) ∧ RS W b s wr ((p + k : Nat) : Int) t
section
variable {W w : World} {b : Nat} {s : ByteArray} {p : Nat} {t l : List UInt8}
set_option maxHeartbeats 1000000 in
theorem number4_any (h : RS W b s w p t) (hs : s = txt l) (hl : l.length ≤ 1000000) (hp : p ≤ l.length) :
    Calls Tryz.prog 119 #[.pointer (some ⟨b, 0, none⟩)] w (NumPost W b s l p t) := by
  have R0 : NRel W b s l p t 0 0 w := ⟨hp, by simp, by cases Qu.hx 4 0 (l.drop p) <;> simp [hxS], h⟩
  have HS := Lib.hid hs
  have HL := Lib.hid hl
  clear h hs hl hp
  go_enter Tryz.func119, Tryz.ntmps119
  go_wp2_with fail
  go_loopw [2, 5] (fun v i wr => ∃ k n : Nat, k ≤ 4 ∧ i = .int .i64 k ∧ v = .int .i64 n ∧ NRel W b s l p t k n wr) (fun _ i _ => 4 - (intOf i).toNat)
  case atStart => exact ⟨0, 0, Nat.zero_le _, rfl, rfl, R0⟩
  case round =>
    obtain ⟨k, n, hk, rfl, rfl, R⟩ := hrel
    clear R0
    obtain ⟨q, HQ⟩ : ∃ q, Hid (q = p + k) := ⟨_, rfl⟩
    have hsz : s.size = l.length := by rw [HS.out, txt_size]
    by_cases hk4 : k < 4
    · have HR := Lib.hid R
      obtain ⟨r1, r2, r3, r4⟩ := R
      rw [← HQ.out] at r1 r4
      have hn : n ≤ 4095 := by
        have : 16 ^ k ≤ 16 ^ 3 := Nat.pow_le_pow_right (by omega) (by omega)
        omega
      obtain ⟨_, _, v, h3, _⟩ := r4
      obtain ⟨c0, c1, _, cf⟩ := rd_cells h3
      have f1 := cf 1
      clear r2 r3 h3 cf
      have hm : s.size ≤ 1000000 := by have := HL.out; omega
      by_cases hq : q < l.length
      · have hx := txt_at HS.out (k := q)
        have hz : q < s.size := by omega
        have g1 : ((q : Int) == (s.size : Int)) = false := by simp; omega
        have b0 := bt_lo l q
        have b1 := bt_hi l q
        obtain ⟨y, HY⟩ : ∃ y, Hid (y = bt l q) := ⟨_, rfl⟩
        rw [← HY.out] at hx b0 b1
        obtain ⟨x, HX⟩ : ∃ x, Hid (x = dgI y) := ⟨_, rfl⟩
        have hxb := dgI_bd y
        rw [← HX.out] at hxb
        obtain ⟨hx1, hx2⟩ := hxb
        clear r1 hsz
        by_cases hneg : x < 0
        · have E := Lib.hid (hx_none (m := 4 - k - 1) (n := n) hq (by rw [← HY.out, ← HX.out]; exact hneg))
          clear hq
          go_wp2_with fail
          go_quiet (fail)
          go_wp2_with fail
          go_quiet (first | (go_at_call 132; refine (digit_is HX.out b0 b1 _).mono ?_; rintro _ _ ⟨rfl, rfl⟩; exact ⟨rfl, _, rfl⟩))
          go_wp2_with fail
          go_ret2
          refine .inl ⟨k, ?_, rfl, ?_⟩
          · rw [HR.out.2.2.1, show 4 - k = 4 - k - 1 + 1 by omega, ← HQ.out, E.out]; rfl
          · exact HR.out.2.2.2.drewN _
        · have E := Lib.hid (hx_step (m := 4 - k - 1) (n := n) hq (by rw [← HY.out, ← HX.out]; omega))
          have hq1 : q + 1 ≤ l.length := by omega
          clear hq
          go_wp2_with fail
          go_quiet (fail)
          go_wp2_with fail
          go_quiet (first | (go_at_call 132; refine (digit_is HX.out b0 b1 _).mono ?_; rintro _ _ ⟨rfl, rfl⟩; exact ⟨rfl, _, rfl⟩))
          go_wp2_with fail
          go_roundw
          case rel =>
            refine ⟨k + 1, 16 * n + x.toNat, by omega, by go_num, by simp; omega, by have := HQ.out; omega, ?_, ?_, ?_⟩
            · have := HR.out.2.1
              rw [Nat.pow_succ]; omega
            · rw [HR.out.2.2.1, show 4 - k = 4 - k - 1 + 1 by omega, ← HQ.out, E.out, ← HY.out, ← HX.out, hxS_hxS, HQ.out]; rfl
            · rw [show ((p + (k + 1) : Nat) : Int) = (q : Int) + 1 by have := HQ.out; omega]
              have r4 := HR.out.2.2.2
              rw [← HQ.out] at r4
              exact (r4.drewN _).pos _
          case measure => simp [intOf]; omega
      · have E := Lib.hid (hx_off (l := l) (q := q) (m := 4 - k - 1) (n := n) (by omega))
        have g1 : ((q : Int) == (s.size : Int)) = true := by simp; omega
        clear hq r1 hsz
        go_wp2_with fail
        go_quiet (fail)
        go_wp2_with fail
        go_ret2
        refine .inl ⟨k, ?_, rfl, ?_⟩
        · rw [HR.out.2.2.1, show 4 - k = 4 - k - 1 + 1 by omega, ← HQ.out, E.out]; rfl
        · exact HR.out.2.2.2.drewN _
    · obtain rfl : k = 4 := by omega
      have HR := Lib.hid R
      clear R
      go_wp2_with fail
      go_ret2
      obtain ⟨r1, r2, r3, r4⟩ := HR.out
      exact .inr ⟨n, by rw [r3]; rfl, r1, by simpa using r2, rfl, r4⟩
end
end Go.Proofs.YtdclhepjoifpiaaGreatDoor
/- The reader's low half behind a high one. -/
namespace Go.Proofs.YtdclhepjoifpiaaGreatDoor
open Go.RowKit

/-- The low half that stands at p, whole. -/
def lowQ (l : List UInt8) (p : Nat) : Option Nat :=
  if tkB l p 92 = true ∧ tkB l (p + 1) 117 = true then (match Qu.hx 4 0 (l.drop (p + 2)) with | .inr x => if Qu.low x.1 = true then some x.1 else none | .inl _ => none) else none
def LowPost (W : World) (b : Nat) (s : ByteArray) (l : List UInt8) (p : Nat) (t : List UInt8) (e : Ending) (w' : World) : Prop :=
  (∃ m : Nat, lowQ l p = some m ∧ m < 65536 ∧ p + 6 ≤ l.length ∧ e = .returned (.tuple #[.int .i64 m, .bool true]) ∧ RS W b s w' ((p + 6 : Nat) : Int) t) ∨
  (lowQ l p = none ∧ ∃ (n : Int) (q : Nat), e = .returned (.tuple #[.int .i64 n, .bool false]) ∧ RS W b s w' q t)
theorem low_is {n : Nat} {x : Bool} (hx : x = Qu.low n) (w : World) : Calls Tryz.prog 122 #[.int .i64 n] w fun e w' => e = .returned (.bool x) ∧ w = w' := by rw [hx, ← loI_low]; exact low_any n w
theorem high_is {n : Nat} {x : Bool} (hx : x = Qu.high n) (w : World) : Calls Tryz.prog 120 #[.int .i64 n] w fun e w' => e = .returned (.bool x) ∧ w = w' := by rw [hx, ← hiI_high]; exact high_any n w
theorem take_y {W w : World} {b : Nat} {s : ByteArray} {p : Nat} {t l : List UInt8} (c : Int) (h : RS W b s w p t) (hs : s = txt l) (hl : l.length ≤ 1000000) (hc : tkB l p c = true) :
    Calls Tryz.prog 102 #[.pointer (some ⟨b, 0, none⟩), .int .u8 c] w fun e w' => e = .returned (.bool true) ∧ RS W b s w' ((p + 1 : Nat) : Int) t := by
  obtain ⟨h1, h2⟩ : p < l.length ∧ bt l p = c := by simpa [tkB] using hc
  exact take_yes h hs hl h1 h2
theorem take_n {W w : World} {b : Nat} {s : ByteArray} {p : Nat} {t l : List UInt8} (c : Int) (h : RS W b s w p t) (hs : s = txt l) (hl : l.length ≤ 1000000) (hp : p ≤ l.length) (hc : tkB l p c = false) :
    Calls Tryz.prog 102 #[.pointer (some ⟨b, 0, none⟩), .int .u8 c] w fun e w' => e = .returned (.bool false) ∧ RS W b s w' p t := by
  have := take_any h hs hl hp c (B := false) hc.symm
  simpa using this
theorem tkB_lt {l : List UInt8} {p : Nat} {c : Int} (h : tkB l p c = true) : p + 1 ≤ l.length := by
  have := of_decide_eq_true h; omega
section
variable {W w : World} {b : Nat} {s : ByteArray} {p : Nat} {t l : List UInt8}
set_option maxHeartbeats 1000000 in
theorem lowOne_any (h : RS W b s w p t) (hs : s = txt l) (hl : l.length ≤ 1000000) (hp : p ≤ l.length) :
    Calls Tryz.prog 121 #[.pointer (some ⟨b, 0, none⟩)] w (LowPost W b s l p t) := by
  have HR := Lib.hid h
  have HS := Lib.hid hs
  have HL := Lib.hid hl
  have HP := Lib.hid hp
  clear h hs hl hp
  cases a1 : tkB l p 92
  · have E := Lib.hid (show lowQ l p = none by rw [lowQ, if_neg (by simp [a1])])
    have A1 := Lib.hid a1
    clear a1
    go_enter Tryz.func121, Tryz.ntmps121
    go_wp2_with fail
    refine (take_n 92 HR.out HS.out HL.out HP.out A1.out).mono ?_
    rintro e w1 ⟨rfl, R1⟩
    have HR1 := Lib.hid R1
    clear R1
    go_wp2_with fail
    go_ret2
    exact .inr ⟨E.out, _, _, rfl, HR1.out⟩
  · have hp1 := tkB_lt a1
    have A1 := Lib.hid a1
    have HP1 := Lib.hid hp1
    clear hp1
    cases a2 : tkB l (p + 1) 117
    · have E := Lib.hid (show lowQ l p = none by rw [lowQ, if_neg (by simp [a2])])
      have A2 := Lib.hid a2
      clear a1 a2
      go_enter Tryz.func121, Tryz.ntmps121
      go_wp2_with fail
      refine (take_y 92 HR.out HS.out HL.out A1.out).mono ?_
      rintro e w1 ⟨rfl, R1⟩
      have HR1 := Lib.hid R1
      clear R1
      go_wp2_with fail
      refine (take_n 117 HR1.out HS.out HL.out HP1.out A2.out).mono ?_
      rintro e w2 ⟨rfl, R2⟩
      have HR2 := Lib.hid R2
      clear R2
      go_wp2_with fail
      go_ret2
      exact .inr ⟨E.out, _, _, rfl, HR2.out⟩
    · have E := Lib.hid (show lowQ l p = (match Qu.hx 4 0 (l.drop (p + 2)) with | .inr x => if Qu.low x.1 = true then some x.1 else none | .inl _ => none) by rw [lowQ, if_pos ⟨a1, a2⟩])
      have A2 := Lib.hid a2
      have HP2 := Lib.hid (tkB_lt a2)
      clear a1 a2
      go_enter Tryz.func121, Tryz.ntmps121
      go_wp2_with fail
      refine (take_y 92 HR.out HS.out HL.out A1.out).mono ?_
      rintro e w1 ⟨rfl, R1⟩
      have HR1 := Lib.hid R1
      clear R1
      go_wp2_with fail
      refine (take_y 117 HR1.out HS.out HL.out A2.out).mono ?_
      rintro e w2 ⟨rfl, R2⟩
      have HR2 := Lib.hid R2
      clear R2
      go_wp2_with fail
      refine (number4_any HR2.out HS.out HL.out HP2.out).mono ?_
      rintro e w3 (⟨j, e1, rfl, R3⟩ | ⟨n, e1, e2, e3, rfl, R3⟩)
      · have E1 := Lib.hid e1
        have HR3 := Lib.hid R3
        clear e1 R3
        go_wp2_with fail
        go_ret2
        exact .inr ⟨by rw [E.out, E1.out], _, _, rfl, HR3.out⟩
      · have E1 := Lib.hid e1
        have E2 := Lib.hid e2
        have E3 := Lib.hid e3
        have HR3 := Lib.hid R3
        obtain ⟨x, HX⟩ : ∃ x, Hid (x = Qu.low n) := ⟨_, rfl⟩
        clear e1 R3 e2 e3
        go_wp2_with fail
        refine (low_is HX.out _).mono ?_
        rintro e w4 ⟨rfl, rfl⟩
        go_wp2_with fail
        go_ret2
        cases x
        · exact .inr ⟨by rw [E.out, E1.out]; simp [← HX.out], _, _, rfl, HR3.out⟩
        · exact .inl ⟨n, by rw [E.out, E1.out]; simp [← HX.out], E3.out, E2.out, rfl, HR3.out⟩
end
end Go.Proofs.YtdclhepjoifpiaaGreatDoor
/- A string's escapes at a place of it: what the next unit is (lists alone). -/
namespace Go.Proofs.YtdclhepjoifpiaaGreatDoor
open Go.RowKit

theorem tkB_drop {l : List UInt8} {q : Nat} {c : UInt8} (h : tkB l q (c.toNat : Int) = true) : l.drop q = c :: l.drop (q + 1) := by
  obtain ⟨h1, h2⟩ := of_decide_eq_true h
  obtain ⟨d, hd, hb⟩ := drop_at h1
  rw [hd]
  have : d = c := UInt8.toNat_inj.1 (by omega)
  rw [this]
theorem drop_tkB {l r : List UInt8} {q : Nat} {c : UInt8} (h : l.drop q = c :: r) : tkB l q (c.toNat : Int) = true ∧ r = l.drop (q + 1) := by
  have hq : q < l.length := by
    rcases Nat.lt_or_ge q l.length with h1 | h1
    · exact h1
    · rw [List.drop_eq_nil_of_le h1] at h; cases h
  obtain ⟨d, hd, hb⟩ := drop_at hq
  rw [h] at hd
  injection hd with e1 e2
  subst e1
  exact ⟨by simp [tkB, hq, hb], e2⟩
namespace Qu
theorem short_u : short 117 = none := by decide
theorem un_u {r : List UInt8} : un (92 :: 117 :: r) = match hx 4 0 r with | .inl j => .bad (2 + j) | .inr x => .unit 6 (.rune x.1) x.2 := by
  simp only [un, short_u]
  rw [if_neg (by decide), if_pos trivial, if_pos trivial]
  cases hx 4 0 r <;> rfl
theorem un_rune_is {l r : List UInt8} {k n : Nat} (h : un l = .unit k (.rune n) r) : ∃ r', l = 92 :: 117 :: r' ∧ hx 4 0 r' = .inr (n, r) := by
  match l with
  | [] => cases h
  | c :: s =>
    simp only [un] at h
    split at h
    · cases h
    · split at h
      · rename_i h92
        match s with
        | [] => cases h
        | d :: s' =>
          simp only at h
          cases hs : short d with
          | some b => rw [hs] at h; cases h
          | none =>
            rw [hs] at h
            simp only at h
            split at h
            · rename_i hd
              cases hh : hx 4 0 s' with
              | inl j => rw [hh] at h; cases h
              | inr x => rw [hh] at h; cases h; exact ⟨s', by rw [h92, hd], hh⟩
            · cases h
      · split at h
        · cases h
        · cases h
end Qu
theorem un_at {l : List UInt8} {q : Nat} (h1 : tkB l q 92 = true) (h2 : tkB l (q + 1) 117 = true) : Qu.un (l.drop q) = match Qu.hx 4 0 (l.drop (q + 2)) with | .inl j => .bad (2 + j) | .inr x => .unit 6 (.rune x.1) x.2 := by
  rw [tkB_drop (c := 92) h1, tkB_drop (c := 117) h2, Qu.un_u]
theorem hx4_drop {l r : List UInt8} {p n : Nat} (h : Qu.hx 4 0 (l.drop p) = .inr (n, r)) : r = l.drop (p + 4) := by
  obtain ⟨u, hu, hk, _⟩ := Qu.hx_head 4 0 _ h
  have : (l.drop p).drop 4 = r := by rw [hu, ← hk]; simp
  rw [← this, List.drop_drop]
theorem lowQ_some {l : List UInt8} {p m : Nat} (h : lowQ l p = some m) : Qu.low m = true ∧ Qu.un (l.drop p) = .unit 6 (.rune m) (l.drop (p + 6)) := by
  unfold lowQ at h
  split at h
  · rename_i hh
    obtain ⟨h1, h2⟩ := hh
    cases hx : Qu.hx 4 0 (l.drop (p + 2)) with
    | inl j => rw [hx] at h; cases h
    | inr x =>
      rw [hx] at h
      simp only at h
      split at h
      · rename_i hl
        cases h
        refine ⟨hl, ?_⟩
        rw [un_at h1 h2, hx]
        obtain ⟨n, r⟩ := x
        rw [hx4_drop hx]
      · cases h
  · cases h
theorem lowQ_none {l : List UInt8} {p : Nat} (h : lowQ l p = none) : ∀ k m r, Qu.un (l.drop p) = .unit k (.rune m) r → Qu.low m = false := by
  intro k m r hu
  obtain ⟨r', hl, hx⟩ := Qu.un_rune_is hu
  obtain ⟨h1, e1⟩ := drop_tkB hl
  obtain ⟨h2, e2⟩ := drop_tkB (l := l) (q := p + 1) e1.symm
  rw [lowQ, if_pos ⟨h1, h2⟩, show p + 2 = p + 1 + 1 from rfl, ← e2, hx] at h
  simp only at h
  cases hm : Qu.low m with
  | false => rfl
  | true => rw [hm] at h; cases h
section
variable {l : List UInt8} {q : Nat}
theorem tok_esc_bad (h1 : tkB l q 92 = true) (h2 : tkB l (q + 1) 117 = true) {j : Nat} (h : Qu.hx 4 0 (l.drop (q + 2)) = .inl j) : Qu.tok (l.drop q) = .stop (.bad false (2 + j)) := by
  rw [Qu.tok, un_at h1 h2, h]
theorem tok_esc_low (h1 : tkB l q 92 = true) (h2 : tkB l (q + 1) 117 = true) {n : Nat} {r : List UInt8} (h : Qu.hx 4 0 (l.drop (q + 2)) = .inr (n, r)) (hh : Qu.high n = false) (hl : Qu.low n = true) : Qu.tok (l.drop q) = .stop (.bad true 0) := by
  rw [Qu.tok, un_at h1 h2, h]; simp [hh, hl]
theorem tok_esc_one (h1 : tkB l q 92 = true) (h2 : tkB l (q + 1) 117 = true) {n : Nat} {r : List UInt8} (h : Qu.hx 4 0 (l.drop (q + 2)) = .inr (n, r)) (hh : Qu.high n = false) (hl : Qu.low n = false) : Qu.tok (l.drop q) = .go 6 (Qu.pt n) (l.drop (q + 6)) := by
  have := hx4_drop h
  subst this
  rw [Qu.tok, un_at h1 h2, h]; simp [hh, hl]
theorem tok_esc_half (h1 : tkB l q 92 = true) (h2 : tkB l (q + 1) 117 = true) {n : Nat} {r : List UInt8} (h : Qu.hx 4 0 (l.drop (q + 2)) = .inr (n, r)) (hh : Qu.high n = true) (hl : lowQ l (q + 6) = none) : Qu.tok (l.drop q) = .stop (.bad true 0) := by
  have := hx4_drop h
  subst this
  rw [Qu.tok, un_at h1 h2, h]
  simp only [hh, if_true]
  split
  · rename_i k m r' e
    rw [lowQ_none hl k m r' e]; rfl
  · rfl
theorem tok_esc_pair (h1 : tkB l q 92 = true) (h2 : tkB l (q + 1) 117 = true) {n m : Nat} {r : List UInt8} (h : Qu.hx 4 0 (l.drop (q + 2)) = .inr (n, r)) (hh : Qu.high n = true) (hl : lowQ l (q + 6) = some m) : Qu.tok (l.drop q) = .go 12 (Qu.pt (Qu.pair n m)) (l.drop (q + 12)) := by
  have := hx4_drop h
  subst this
  obtain ⟨e1, e2⟩ := lowQ_some hl
  rw [Qu.tok, un_at h1 h2, h]
  simp only [hh, if_true]
  rw [e2]
  simp only [e1, if_true]
end
/-- A rune's bytes are the program's. -/
theorem puts_one {n : Nat} (h : n ≤ 1114111) (h1 : Qu.high n = false) (h2 : Qu.low n = false) : puts [(n : Int)] = Qu.pt n := by
  have hk : knw (n : Int) = n := by
    have a1 : ¬ (55296 ≤ n ∧ n ≤ 56319) := by simpa [Qu.high] using h1
    have a2 : ¬ (56320 ≤ n ∧ n ≤ 57343) := by simpa [Qu.low] using h2
    rw [knw, if_pos (by omega)]
  have e : putI [(n : Int)] = encI n := by
    show putTo [(n : Int)] 1 = _
    simp [putTo, it, hk]
  rw [puts, e]
  unfold encI Qu.pt
  by_cases c1 : n < 128
  · rw [if_pos (by omega), if_pos c1]; simp [b8]
  rw [if_neg (by omega), if_neg c1]
  by_cases c2 : n < 2048
  · rw [if_pos (by omega), if_pos c2]
    simp only [List.map_cons, List.map_nil, b8]
    rw [show (192 + (n : Int) / 64).toNat = 192 + n / 64 by omega, show (128 + (n : Int) % 64).toNat = 128 + n % 64 by omega]
  rw [if_neg (by omega), if_neg c2]
  by_cases c3 : n < 65536
  · rw [if_pos (by omega), if_pos c3]
    simp only [List.map_cons, List.map_nil, b8]
    rw [show (224 + (n : Int) / 4096).toNat = 224 + n / 4096 by omega, show (128 + (n : Int) / 64 % 64).toNat = 128 + n / 64 % 64 by omega, show (128 + (n : Int) % 64).toNat = 128 + n % 64 by omega]
  rw [if_neg (by omega), if_neg c3]
  simp only [List.map_cons, List.map_nil, b8]
  rw [show (240 + (n : Int) / 262144).toNat = 240 + n / 262144 by omega, show (128 + (n : Int) / 4096 % 64).toNat = 128 + n / 4096 % 64 by omega, show (128 + (n : Int) / 64 % 64).toNat = 128 + n / 64 % 64 by omega, show (128 + (n : Int) % 64).toNat = 128 + n % 64 by omega]
theorem pt_len (n : Nat) : (Qu.pt n).length ≤ 4 := by unfold Qu.pt; repeat' split
                                                      all_goals simp
end Go.Proofs.YtdclhepjoifpiaaGreatDoor
/- The reader's numbered escapes. -/
namespace Go.Proofs.YtdclhepjoifpiaaGreatDoor
open Go.RowKit

/-- What an escape's reading leaves, of the unit (or the pair) that begins at q. -/
def EscPost (W : World) (b : Nat) (s : ByteArray) (l : List UInt8) (q : Nat) (t : List UInt8) (e : Ending) (w' : World) : Prop :=
  (∃ hf a, Qu.tok (l.drop q) = .stop (.bad hf a) ∧ e = .returned (.int .i64 (if hf = true then 6 else 3)) ∧ RS W b s w' ((q + a : Nat) : Int) t) ∨
  (∃ k u, Qu.tok (l.drop q) = .go k u (l.drop (q + k)) ∧ 1 ≤ k ∧ q + k ≤ l.length ∧ u.length ≤ 4 * k ∧ e = .returned (.int .i64 0) ∧ RS W b s w' ((q + k : Nat) : Int) (t ++ u))
theorem num_one {w : World} (n : Int) (o : Obj) (h : o = .cells #[.int .i64 n] 3) : Num (w.alloc o).drew (w.alloc o).heap.size (some ⟨w.heap.size, 0, none⟩) [n] := by
  subst h
  refine fun _ => ⟨w.heap.size, 0, rfl, by simp, fun k hk => ?_⟩
  obtain rfl : k = 0 := by simpa using hk
  show (w.alloc _).cell? _ = _
  rw [World.cell?_alloc_at _ _ _ _ rfl]
  simp [it]
theorem Heads.old {W w : World} (h : Heads W) (hz : 3 < W.heap.size) (hb : Below W.heap.size W w) : Heads w := h.below hb hz
section
variable {W w : World} {b : Nat} {s : ByteArray} {q : Nat} {t l : List UInt8}
theorem puts1 {v : Value} {p : Int} (R : RV W b s w p t v) (hH : Heads W) (hz : 3 < W.heap.size) (n : Int) : Calls Tryz.prog 123 #[.slice (some ⟨w.heap.size, 0, none⟩) 1 1] (w.alloc (.cells #[.int .i64 n] 3)).drew
    (fun e w' => ∃ A c, e = .returned (.slice A (puts [n]).length c) ∧ Byt w' w'.heap.size A (puts [n]) ∧ (A = none → c = 0) ∧ RV W b s w' p t v) := by
  have R1 : RV W b s (w.alloc (.cells #[.int .i64 n] 3)).drew p t v := (R.alloc _).drew
  have hb := R1.1
  have hz1 : 3 < (w.alloc (.cells #[.int .i64 n] 3)).drew.heap.size := Nat.lt_of_lt_of_le hz hb.size
  refine (puts_any (l := [n]) (B := (w.alloc (.cells #[.int .i64 n] 3)).drew.heap.size) 1 1 rfl (num_one n _ rfl) (Nat.le_refl _) (by omega) (hH.old hz hb) hz1).mono ?_
  rintro e w' ⟨rfl, hown, hbel⟩
  rw [bytV_puts] at hown
  obtain ⟨A, c, e1, h1, h2, h3, h4, h5⟩ := own_form hown
  refine ⟨_, _, by rw [← h3], ?_, (fun h => by cases h), R1.below hbel⟩
  injection e1 with e1 e2 e3
  rw [e1]; exact h4
set_option maxRecDepth 100000 in
set_option maxHeartbeats 2000000 in
theorem numbered_any (h : RS W b s w ((q + 2 : Nat) : Int) t) (hs : s = txt l) (hl : l.length ≤ 1000000) (h1 : tkB l q 92 = true) (h2 : tkB l (q + 1) 117 = true) (ht : t.length ≤ 4 * q) (hH : Heads W) (hz : 3 < W.heap.size) :
    Calls Tryz.prog 110 #[.pointer (some ⟨b, 0, none⟩)] w (EscPost W b s l q t) := by
  obtain ⟨i0, hi, hz0, hz1, hz2⟩ := info_parts (show (Tryz.prog.info? 5).map (fun i => (i.zero, i.size, i.bytes)) = some (some (.int .u8 0), 1, 1) by kernel_rfl)
  obtain ⟨p, HP⟩ : ∃ p, Hid (p = q + 2) := ⟨_, rfl⟩
  have HR : Hid (RS W b s w (p : Int) t) := by rw [HP.out]; exact h
  have HS := Lib.hid hs
  have HL := Lib.hid hl
  have H1 := Lib.hid h1
  have H2 := Lib.hid h2
  have HT := Lib.hid ht
  have HH := Lib.hid hH
  have HPL : Hid (p ≤ l.length) := by rw [HP.out]; exact tkB_lt h2
  have hpe : (p : Int) - 2 = (q : Int) := by have := HP.out; omega
  have hp2 : p ≤ 1000000 := by have := HPL.out; omega
  obtain ⟨v0, R0⟩ := h.rv
  have c1 : w.cell? ⟨b, 1, none⟩ = some (.int .i64 p) := by rw [HP.out]; exact R0.cells.2.1
  clear h hs hl h1 h2 ht R0 v0 hH
  go_enter Tryz.func110, Tryz.ntmps110
  go_wp2_with fail
  clear c1 hpe hp2
  refine (number4_any HR.out HS.out HL.out HPL.out).mono ?_
  rintro e w1 (⟨j, e1, rfl, R1⟩ | ⟨n, e1, e2, e3, rfl, R1⟩)
  · have E1 := Lib.hid e1
    have HR1 := Lib.hid R1
    clear e1 R1
    go_wp2_with fail
    go_ret
    refine .inl ⟨false, 2 + j, tok_esc_bad H1.out H2.out (by rw [← HP.out]; exact E1.out), rfl, ?_⟩
    have := HR1.out
    rwa [show p + j = q + (2 + j) by have := HP.out; omega] at this
  · have E1 : Hid (Qu.hx 4 0 (l.drop (q + 2)) = .inr (n, l.drop (p + 4))) := by rw [← HP.out]; exact e1
    have E2 := Lib.hid e2
    have HR1 := Lib.hid R1
    have hn := e3
    obtain ⟨x, HX⟩ : ∃ x, Hid (x = Qu.high n) := ⟨_, rfl⟩
    clear e1 R1 e2 e3
    go_wp2_with fail
    refine (high_is HX.out _).mono ?_
    rintro e w2 ⟨rfl, rfl⟩
    go_upto_if 21 with fail
    go_cut [4] (fun y wx => ∃ (N k q' : Nat), y = .int .i64 N ∧ N ≤ 1114111 ∧ RS W b s wx (q' : Int) t ∧ (((Qu.high N = true ∨ Qu.low N = true) ∧ Qu.tok (l.drop q) = .stop (.bad true 0)) ∨ (Qu.high N = false ∧ Qu.low N = false ∧ Qu.tok (l.drop q) = .go k (Qu.pt N) (l.drop (q + k)) ∧ 1 ≤ k ∧ q + k ≤ l.length ∧ q' = q + k)))
    case first =>
      cases x
      · go_wp2_with fail
        go_meet
        refine ⟨n, 6, p + 4, rfl, by omega, HR1.out, ?_⟩
        have hh : Qu.high n = false := HX.out.symm
        cases hlw : Qu.low n with
        | true => exact .inl ⟨.inr rfl, tok_esc_low H1.out H2.out E1.out hh hlw⟩
        | false => exact .inr ⟨hh, rfl, tok_esc_one H1.out H2.out E1.out hh hlw, by omega, by have := E2.out; have := HP.out; omega, by have := HP.out; omega⟩
      · have hh : Qu.high n = true := HX.out.symm
        have HN := Lib.hid hh
        have hb := Qu.high_is hh
        obtain ⟨hb1, hb2⟩ := hb
        clear hh
        go_wp2_with fail
        refine (lowOne_any HR1.out HS.out HL.out E2.out).mono ?_
        rintro e w3 (⟨m, g1, g2, g3, rfl, R3⟩ | ⟨g1, m, q', rfl, R3⟩)
        · have G1 := Lib.hid g1
          have G3 := Lib.hid g3
          have HR3 := Lib.hid R3
          have hlm := (lowQ_some g1).1
          have hb3 := Qu.low_is hlm
          obtain ⟨hb3, hb4⟩ := hb3
          have HM := Lib.hid hlm
          clear g1 g3 R3 hlm g2
          go_wp2_with fail
          go_meet
          have hpr := Qu.pair_bd HN.out HM.out
          have hpe : (Qu.pair n m : Int) = 65536 + 1024 * ((n : Int) - 55296) + m - 56320 := by unfold Qu.pair; omega
          refine ⟨Qu.pair n m, 12, p + 10, by rw [hpe], hpr.2, ?_, .inr ⟨by simp [Qu.high]; omega, by simp [Qu.low]; omega, ?_, by omega, by have := G3.out; have := HP.out; omega, by have := HP.out; omega⟩⟩
          · exact HR3.out
          · exact tok_esc_pair H1.out H2.out E1.out HN.out (by have := G1.out; rwa [HP.out, show q + 2 + 4 = q + 6 by omega] at this)
        · have G1 := Lib.hid g1
          have HR3 := Lib.hid R3
          clear g1 R3
          go_wp2_with fail
          go_meet
          exact ⟨n, 0, q', rfl, by omega, HR3.out, .inl ⟨.inl HN.out, tok_esc_half H1.out H2.out E1.out HN.out (by have := G1.out; rwa [HP.out, show q + 2 + 4 = q + 6 by omega] at this)⟩⟩
    case rest =>
      obtain ⟨N, k, q', rfl, hN, R, hcase⟩ := hcut
      clear HX HR1 E1 E2 HR hn
      obtain ⟨v, RV1⟩ := R.rv
      have HV := Lib.hid RV1
      obtain ⟨c0, c1, c2, cf⟩ := RV1.cells
      have f1 := cf 1
      have f2 := cf 2
      clear cf RV1 R
      obtain ⟨x, HX⟩ : ∃ x, Hid (x = Qu.high N) := ⟨_, rfl⟩
      obtain ⟨y, HY⟩ : ∃ y, Hid (y = Qu.low N) := ⟨_, rfl⟩
      rcases hcase with ⟨hc1, hc2⟩ | ⟨hc1, hc2, hc3, hc4, hc5, hc6⟩
      · have HC := Lib.hid hc2
        have hq1 : (q : Int) ≤ 1000000 := by have := HPL.out; have := HP.out; have := HL.out; omega
        clear hc2
        cases x
        · cases y
          · exact absurd hc1 (by rw [← HX.out, ← HY.out]; simp)
          · clear hc1
            go_wp2_with fail
            refine (high_is HX.out _).mono ?_
            rintro e w3 ⟨rfl, rfl⟩
            go_wp2_with fail
            refine (low_is HY.out _).mono ?_
            rintro e w3 ⟨rfl, rfl⟩
            go_wp2_with fail
            go_ret
            exact .inl ⟨true, 0, HC.out, rfl, HV.out.rs.pos _⟩
        · clear hc1
          go_wp2_with fail
          refine (high_is HX.out _).mono ?_
          rintro e w3 ⟨rfl, rfl⟩
          go_wp2_with fail
          go_ret
          exact .inl ⟨true, 0, HC.out, rfl, HV.out.rs.pos _⟩
      · have HC := Lib.hid hc3
        have HC1 := Lib.hid hc1
        have HC2 := Lib.hid hc2
        have HC4 := Lib.hid hc4
        have HC5 := Lib.hid hc5
        have HC6 := Lib.hid hc6
        obtain rfl : x = false := by rw [HX.out]; exact hc1
        obtain rfl : y = false := by rw [HY.out]; exact hc2
        have htl : t.length ≤ 4000000 := by have := HT.out; have := HP.out; have := HPL.out; have := HL.out; omega
        have hpl : (puts [(N : Int)]).length ≤ 4 := by rw [puts_one hN hc1 hc2]; exact pt_len N
        have HU := Lib.hid (puts_one hN hc1 hc2)
        clear hc3 hc1 hc2 hc4 hc5 hc6
        go_wp2_with fail
        refine (high_is HX.out _).mono ?_
        rintro e w3 ⟨rfl, rfl⟩
        go_wp2_with fail
        refine (low_is HY.out _).mono ?_
        rintro e w3 ⟨rfl, rfl⟩
        go_wp2_with fail
        have ca := (HV.out.alloc (.cells #[.int .i64 N] 3)).cells.2.2.1
        go_region_law (first
          | (refine step_app rfl (.tmp 49) (.tmp 52) 22 rfl W.heap.size 5 i0 (.int .u8 0) 1 Tryz.underlying22 hi hz0 hz1 hz2 rfl v t.length (bytV t) rfl R4.2.2.2 A (puts [(N : Int)]).length c _ (puts [(N : Int)]) rfl rfl hA hnone (by unfold maxLen; omega) (by omega) R4.1.size ?_; intro v' w5 hown5 hg5; obtain ⟨⟨A', n', cp', rfl⟩, h5, R5⟩ := RV.text R4 hown5 hg5; obtain ⟨c0', c1', c2', cf'⟩ := rd_cells h5; have f2' := cf' 2; clear cf' h5 hown5 hg5)
          | (go_simp; go_at_call 123; refine (puts1 HV.out HH.out hz N).mono ?_; rintro e w4 ⟨A, c, rfl, hA, hnone, R4⟩; obtain ⟨d0, d1, d2, df⟩ := R4.cells; clear d0 d1 df))
        all_goals (have HR5 := Lib.hid R5; clear R5)
        all_goals go_wp2_with fail
        all_goals go_ret
        all_goals exact .inr ⟨k, Qu.pt N, HC.out, HC4.out, HC5.out, by have := pt_len N; have := HC4.out; omega, rfl, by have := HR5.out; rw [HU.out] at this; rwa [HC6.out] at this⟩
end
end Go.Proofs.YtdclhepjoifpiaaGreatDoor
