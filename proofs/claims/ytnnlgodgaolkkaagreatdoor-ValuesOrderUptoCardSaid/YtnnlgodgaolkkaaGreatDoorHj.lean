/- What landed of values: a copy of texts. -/
import Derived.Test.YtnnlgodgaolkkaaGreatDoorHi
import Derived.Test.YtnnlgodgaolkkaaGreatDoorHl
import Derived.Test.YtnnlgodgaolkkaaGreatDoorLrm
import Derived.Test.YtnnlgodgaolkkaaGreatDoorShelfm
import Derived.Test.YtnnlgodgaolkkaaGreatDoorUmm
import Derived.OwnWalk
namespace Go.Proofs.YtnnlgodgaolkkaaGreatDoor
open Go.RowKit
namespace Va
set_option maxRecDepth 100000

theorem clone_any {s : ByteArray} (w : World) (h : s.size ≤ 1000000) : Calls Tryz.prog 66 #[.string s] w fun e w' => e = .returned (.string s) ∧ Below w.heap.size w w' := by
  have C := Lib.hid (Tryz.stringslite_Clone s w (by omega))
  go_enter Tryz.func66, Tryz.ntmps66
  go_wp2_with fail
  refine C.out.mono ?_
  rintro e w2 ⟨rfl, hb⟩
  go_wp2_with fail
  go_ret
  exact ⟨rfl, hb⟩
theorem gb_tr {w w1 w2 : World} {g : Nat} (h : w.grownBy w1 (some g)) (h' : w1.grownBy w2 (some g)) : w.grownBy w2 (some g) :=
  ⟨h'.os.trans h.os, h'.tape.trans h.tape, h'.output.trans h.output, Nat.le_trans h.size h'.size, fun k hk hn => (h'.block k (Nat.lt_of_lt_of_le hk h.size) hn).trans (h.block k hk hn)⟩
theorem gb_call {w w' : World} (g : Nat) (h : Below w.heap.size w w') : w.grownBy w' (some g) := ⟨h.os, h.tape, h.output, h.size, fun k hk _ => h.block k hk⟩
theorem gb_below {w w' : World} {g b : Nat} (h : w.grownBy w' (some g)) (hg : b ≤ g) (hb : b ≤ w.heap.size) : Below b w w' := ⟨h.os, h.tape, h.output, h.size, fun k hk => h.block k (by omega) (by simp; omega)⟩
theorem gb_refl (w : World) (g : Nat) : w.grownBy w (some g) := ⟨rfl, rfl, rfl, Nat.le_refl _, fun _ _ _ => rfl⟩
/-- A row of texts of one's own, under way. -/
def RT (base : Nat) (w : World) (g n : Nat) (L : List Bs) : Prop := w.ownsRow base 9 1 (.slice (some ⟨g, 0, none⟩) L.length n) L.length (L.map fun t => .string (txt t))
theorem L9 {base : Nat} {w : World} {g n : Nat} (h : w.ownsRow base 9 1 (.slice (some ⟨g, 0, none⟩) 0 n) 0 []) : RT base w g n [] := h
theorem RT.on {base : Nat} {w w' : World} {g n : Nat} {L : List Bs} (h : RT base w g n L) (hb : Below w.heap.size w w') : RT base w' g n L := own_on h fun k hk => hb.block k (h.lt k hk).2
set_option maxHeartbeats 4000000 in
theorem eachT1_any {base g n q k : Nat} {L : List Bs} {t : Bs} {S : ByteArray} (w : World) (hR : RT base w g n L) (hL : L.length = k) (hk : k < n) (_hn : n ≤ 1000000) (hS : S = txt t) (ht : t.length ≤ 1000000) (hq : w.cell? ⟨q, 0, none⟩ = some (.func (.func 66) #[] #[])) :
    Calls Tryz.prog 87 #[.slice (some ⟨g, 0, none⟩) k n, .string S, .pointer (some ⟨q, 0, none⟩)] w fun e w' => e = .returned (.slice (some ⟨g, 0, none⟩) ((k + 1 : Nat)) n) ∧ RT base w' g n (L ++ [t]) ∧ w.grownBy w' (some g) := by
  obtain ⟨i0, hi, hz0, hz1, hz2⟩ := info_parts (show (Tryz.prog.info? 9).map (fun i => (i.zero, i.size, i.bytes)) = some (some (.string ⟨#[]⟩), 1, 16) by kernel_rfl)
  have CC := Lib.hid (clone_any (s := S) w (by rw [hS, txt_size]; exact ht))
  have HR := Lib.hid hR
  have HL := Lib.hid hL
  have HS := Lib.hid hS
  clear hR hL hS ht
  go_enter Tryz.func87, Tryz.ntmps87
  go_wp2_with fail
  refine CC.out.mono ?_
  rintro e w2 ⟨rfl, hb⟩
  have HB := Lib.hid hb
  have hown : w2.ownsRow base 9 1 (.slice (some ⟨g, 0, none⟩) k n) k (L.map fun t => .string (txt t)) := by rw [← HL.out]; exact HR.out.on hb
  have HO := Lib.hid hown
  clear hb hown hq
  go_wp2_with (at_builtin; refine wpList_append_own_spare _ rfl (.tmp 6) (.tmp 10) 24 rfl base 9 i0 1 Tryz.underlying24 hi hz1 g k n (L.map fun t => .string (txt t)) rfl (HO.out.alloc _) ⟨w2.heap.size, 0, none⟩ 1 1 [.string S] rfl rfl (by intro j u hj; match j, hj with | 0, hj => (obtain rfl : Value.string S = u := by simpa using hj); rw [addAt]; exact cell_fst1 .. | j + 1, hj => simp at hj) (by intro u hu; obtain rfl : u = .string S := (by simpa using hu); rfl) (by omega) ?_; intro w3 hown3 hgr3)
  go_ret
  refine ⟨by first | rfl | trivial, ?_, gb_tr (gb_call g (below_tr HB.out (below_new ..))) hgr3⟩
  unfold RT
  rw [List.length_append, HL.out, List.map_append, show ([t].map fun t => Value.string (txt t)) = [.string S] from by rw [HS.out]; rfl]
  exact hown3
set_option maxHeartbeats 4000000 in
theorem overT_any {base g n q c b0 : Nat} {A : Option Addr} {ks : List Bs} (w : World) (hR : RT base w g n []) (hK : Tx w A ks) (hb0 : 0 < ks.length → ∀ g o, A = some ⟨g, o, none⟩ → g < b0) (hbg : b0 ≤ g) (hbw : b0 ≤ w.heap.size) (hn : n = ks.length) (hn9 : n ≤ 1000000) (ht : ∀ t ∈ ks, t.length ≤ 1000000) (hq : w.cell? ⟨q, 0, none⟩ = some (.func (.func 66) #[] #[])) (hqg : q ≠ g) :
    Calls Tryz.prog 86 #[.slice A n c, .slice (some ⟨g, 0, none⟩) 0 n, .func (.func 87) #[] #[.pointer (some ⟨q, 0, none⟩)]] w fun e w' => e = .returned (.slice (some ⟨g, 0, none⟩) n n) ∧ RT base w' g n ks ∧ w.grownBy w' (some g) := by
  have HR := Lib.hid hR
  have HK := Lib.hid hK
  have HN := Lib.hid hn
  have HB0 := Lib.hid hb0
  have HT := Lib.hid ht
  have HQC := Lib.hid hq
  have HQL := Lib.hid (World.block_lt_of_cell? w _ hq)
  have HQG := Lib.hid hqg
  have HBG := Lib.hid hbg
  have HBW := Lib.hid hbw
  clear hR hK hn hb0 ht hq hqg hbg hbw
  go_enter Tryz.func86, Tryz.ntmps86
  go_wp2_with fail
  go_loopw [1, 8, 11] (fun a _ i wx => ∃ k : Nat, k ≤ n ∧ i = .int .i64 k ∧ a = .slice (some ⟨g, 0, none⟩) k n ∧ Hid (RT base wx g n (ks.take k) ∧ w.grownBy wx (some g))) (fun _ _ i _ => n - (intOf i).toNat)
  case atStart => exact ⟨0, Nat.zero_le _, rfl, rfl, Lib.hid ⟨by rw [List.take_zero]; exact HR.out, gb_refl _ _⟩⟩
  case round =>
    obtain ⟨k, hk, rfl, rfl, HQ⟩ := hrel
    by_cases hlt : k < n
    · obtain ⟨t, ht⟩ := get_lt (l := ks) (i := k) (by rw [← HN.out]; exact hlt)
      obtain ⟨g1, o, rfl, hg, hf⟩ := HK.out (by rw [← HN.out]; omega)
      have hg1 := HB0.out (by rw [← HN.out]; omega) _ _ rfl
      have c5 := cell_eq (HQ.out.2.block g1 hg (by have := HBG.out; simp; omega)) (hf k t ht)
      have c6 := cell_eq (HQ.out.2.block q HQL.out (by have := HQG.out; simpa using this)) HQC.out
      obtain ⟨S, hS⟩ : ∃ S, S = txt t := ⟨_, rfl⟩
      rw [← hS] at c5
      have CE := Lib.hid (eachT1_any wr HQ.out.1 (by rw [List.length_take, ← HN.out]; omega) hlt hn9 hS (HT.out t (List.mem_of_getElem? ht)) c6)
      have HE := Lib.hid (show ks.take (k + 1) = ks.take k ++ [t] from by rw [List.take_add_one, ht]; rfl)
      clear ht hf hg hg1 hS c6
      go_wp2_with fail
      refine CE.out.mono ?_
      rintro e w2 ⟨rfl, h1, h2⟩
      have HQ2 := Lib.hid (show RT base w2 g n (ks.take (k + 1)) ∧ w.grownBy w2 (some g) from ⟨by rw [HE.out]; exact h1, gb_tr HQ.out.2 h2⟩)
      clear h1 h2 c5
      go_wp2_with fail
      go_roundw
      case rel => exact ⟨k + 1, by omega, by go_num, by first | rfl | trivial, HQ2⟩
      case measure => simp [intOf]; omega
    · obtain rfl : k = n := by omega
      have HE := Lib.hid (show ks.take k = ks from List.take_of_length_le (by rw [← HN.out]; omega))
      go_wp2_with fail
      go_ret
      exact ⟨by first | rfl | trivial, by rw [← HE.out]; exact HQ.out.1, HQ.out.2⟩
end Va
end Go.Proofs.YtnnlgodgaolkkaaGreatDoor
/- What landed of values: a copy of a row of texts; a copy of values, one by one. -/
namespace Go.Proofs.YtnnlgodgaolkkaaGreatDoor
open Go.RowKit
namespace Va
set_option maxRecDepth 100000

theorem nil_eq (w : World) : Sem.run Tryz.prog (binOp .eql 24 (.slice none 0 0) (.slice none 0 0)) w = .ok (.bool true) w := by kernel_rfl
theorem nil_ne (w : World) (ad : Addr) (n c : Nat) : Sem.run Tryz.prog (binOp .eql 24 (.slice (some ad) n c) (.slice none 0 0)) w = .ok (.bool false) w := by kernel_rfl
theorem nilV_eq (w : World) : Sem.run Tryz.prog (binOp .eql 23 (.slice none 0 0) (.slice none 0 0)) w = .ok (.bool true) w := by kernel_rfl
theorem nilV_ne (w : World) (ad : Addr) (n c : Nat) : Sem.run Tryz.prog (binOp .eql 23 (.slice (some ad) n c) (.slice none 0 0)) w = .ok (.bool false) w := by kernel_rfl
/-- A row of texts of one's own, or none. -/
def TxO (lo : Nat) (w : World) (R : Option Addr) (c : Nat) (ks : List Bs) : Prop := (R = none ∧ ks = [] ∧ c = 0) ∨ ∃ g, R = some ⟨g, 0, none⟩ ∧ c = ks.length ∧ RT lo w g ks.length ks
set_option maxHeartbeats 4000000 in
theorem eachT_any {n c : Nat} {A : Option Addr} {ks : List Bs} (w : World) (hK : Tx w A ks) (hn : n = ks.length) (hn9 : n ≤ 1000000) (hA : A = none → c = 0) (hc : n ≤ c) (ht : ∀ t ∈ ks, t.length ≤ 1000000) :
    Calls Tryz.prog 68 #[.slice A n c, .func (.func 66) #[] #[]] w fun e w' => (∃ R d, e = .returned (.slice R n d) ∧ TxO w.heap.size w' R d ks) ∧ Below w.heap.size w w' := by
  obtain ⟨i0, hi, hz0, hz1, hz2⟩ := info_parts (show (Tryz.prog.info? 9).map (fun i => (i.zero, i.size, i.bytes)) = some (some (.string ⟨#[]⟩), 1, 16) by kernel_rfl)
  cases A with
  | none =>
    obtain rfl := hA rfl
    obtain rfl : n = 0 := by omega
    have HE := Lib.hid (show ks = [] from List.eq_nil_of_length_eq_zero hn.symm)
    have hz := fun w => nil_eq w
    clear hK hn ht
    go_enter Tryz.func68, Tryz.ntmps68
    go_wp2_with fail
    go_ret
    exact ⟨⟨_, _, rfl, .inl ⟨rfl, HE.out, rfl⟩⟩, below_new ..⟩
  | some ad =>
    have HK := Lib.hid hK
    have HN := Lib.hid hn
    have HT := Lib.hid ht
    have hz := fun w => nil_ne w ad n c
    clear hK hn ht hA
    obtain ⟨W1, hW1⟩ : ∃ W, W = w.alloc (.cells #[.func (.func 66) #[] #[]] 65) := ⟨_, rfl⟩
    have HB1 := Lib.hid (show Below w.heap.size w W1 from by rw [hW1]; exact below_new ..)
    have HQ := Lib.hid (show W1.cell? ⟨w.heap.size, 0, none⟩ = some (.func (.func 66) #[] #[]) from by rw [hW1]; exact cell_fst1 ..)
    have HW1 := Lib.hid hW1
    clear hW1
    go_enter Tryz.func68, Tryz.ntmps68
    go_upto_region 1 with fail
    rw [← HW1.out]
    obtain ⟨q, hq⟩ : ∃ q, q = w.heap.size := ⟨_, rfl⟩
    rw [← hq] at HQ ⊢
    have HQE := Lib.hid hq
    clear HW1 hq
    go_wp2_with (at_make; refine wpList_make_own _ rfl _ _ 24 rfl w.heap.size 9 i0 _ 1 Tryz.underlying24 hi hz0 hz1 .i64 .i64 _ n rfl rfl rfl (by rw [hz2]; omega) (by unfold maxLen; omega) HB1.out.size ?_; intro w1 hown1 hg1)
    have HB2 := Lib.hid (show Below W1.heap.size W1 w1 from (Below.refl _ _).grown hg1 (Nat.le_refl _) (fun _ h => by cases h))
    have HBW := Lib.hid (below_tr HB1.out HB2.out)
    have hql : q < W1.heap.size := World.block_lt_of_cell? _ _ HQ.out
    have CO := Lib.hid (overT_any (base := w.heap.size) (g := W1.heap.size) (q := q) (c := c) (b0 := w.heap.size) w1 (L9 hown1) (HK.out.on HBW.out) (fun h0 g o e => by
      obtain ⟨g', o', e', hg', _⟩ := HK.out h0
      rw [e'] at e; injection e with e; injection e with e _ _; subst e
      exact hg') HB1.out.size HBW.out.size HN.out hn9 HT.out (cell_old HB2.out hql HQ.out) (by omega))
    have HGL := Lib.hid (show w.heap.size ≤ W1.heap.size from HB1.out.size)
    clear hown1 hg1 hql
    refine CO.out.mono ?_
    rintro e w2 ⟨rfl, h1, h2⟩
    have HR := Lib.hid (show TxO w.heap.size w2 (some ⟨W1.heap.size, 0, none⟩) n ks from .inr ⟨_, rfl, HN.out, by rw [← HN.out]; exact h1⟩)
    have HB3 := Lib.hid (HBW.out.trans (gb_below h2 HGL.out HBW.out.size))
    clear h1 h2
    go_wp2_with fail
    go_ret
    exact ⟨⟨_, _, rfl, HR.out⟩, HB3.out⟩
end Va
end Go.Proofs.YtnnlgodgaolkkaaGreatDoor
