/- What landed of trees: rows of spans that are none, and of noughts. -/
import Derived.Test.YtggeiajbcehkjaaGreatDoorGbn
import Derived.Laws.OwnMore
namespace Go.Proofs.YtggeiajbcehkjaaGreatDoor
open Go.RowKit
open Va (Bs V v0 Tx Vm Vk Vr vO below_tr below_new heap_alloc_new get_lt vcells vm_zero clone_any own_on cell_eq gb_tr gb_call gb_below)
namespace Tt
set_option maxRecDepth 100000

theorem nilV_eq (w : World) : Sem.run Tryz.prog (binOp .eql 30 (.slice none 0 0) (.slice none 0 0)) w = .ok (.bool true) w := by kernel_rfl
theorem nilV_ne (w : World) (ad : Addr) (n c : Nat) : Sem.run Tryz.prog (binOp .eql 30 (.slice (some ad) n c) (.slice none 0 0)) w = .ok (.bool false) w := by kernel_rfl
/-- A row of one's own, of just so many, or none. -/
def RO (lo : Nat) (w : World) (e : TypeId) (s : Nat) (R : Option Addr) (c n : Nat) (xs : List Value) : Prop := (R = none ∧ n = 0 ∧ c = 0 ∧ xs = []) ∨ ∃ g, R = some ⟨g, 0, none⟩ ∧ c = n ∧ w.ownsRow lo e s (.slice (some ⟨g, 0, none⟩) n n) n xs
abbrev m1 : Value := .int .i64 (-1)
abbrev i0 : Value := .int .i64 0
set_option maxHeartbeats 4000000 in
theorem alone1_any {q : Nat} {S : ByteArray} (w : World) (hq : w.heap[q]? = some (.cells #[m1, m1] 43)) :
    Calls Tryz.prog 92 #[.string S, .pointer (some ⟨q, 0, none⟩)] w fun e w' => e = .returned (.agg #[m1, m1]) ∧ Below w.heap.size w w' := by
  have c0 : w.cell? ⟨q, 0, none⟩ = some m1 := by simp [World.cell?, hq]
  have c1 : w.cell? ⟨q, 1, none⟩ = some m1 := by simp [World.cell?, hq]
  have hl := World.block_lt_of_cell? w _ c0
  clear hq
  go_enter Tryz.func92, Tryz.ntmps92
  go_wp2_with fail
  refine bodyPost_ret (v := .agg #[m1, m1]) (by simp [results, Tryz.results92, go_sem, *]) rfl ?_
  exact ⟨by first | rfl | trivial, by first | exact below_new .. | exact (((below_new w _).setCell (p := ⟨w.heap.size, 0, none⟩) (Nat.le_refl _) _).setCell (p := ⟨w.heap.size, 1, none⟩) (Nat.le_refl _) _)⟩
set_option maxHeartbeats 4000000 in
theorem alone2_any {v : Value} {x : V} (w : World) (hv : Vm w v x) : Calls Tryz.prog 94 #[v] w fun e w' => e = .returned i0 ∧ Below w.heap.size w w' := by
  obtain ⟨k, t, l, ks⟩ := x
  obtain ⟨A, B, c, d, rfl, _⟩ := hv.inv
  obtain ⟨T, hT⟩ : ∃ T, T = txt t := ⟨_, rfl⟩
  rw [← hT]
  clear hv hT
  go_enter Tryz.func94, Tryz.ntmps94
  go_wp2_with fail
  go_ret
  exact ⟨by first | rfl | trivial, below_new ..⟩
theorem rep_snoc (n : Nat) (v : Value) : List.replicate n v ++ [v] = List.replicate (n + 1) v := (List.replicate_succ' (n := n) (a := v)).symm
theorem rep_snoc2 (n : Nat) (v : Value) : List.replicate (n * 2) v ++ [v, v] = List.replicate ((n + 1) * 2) v := by
  rw [show (n + 1) * 2 = n * 2 + 1 + 1 by omega, List.replicate_succ', List.replicate_succ', List.append_assoc]; rfl
set_option maxHeartbeats 8000000 in
theorem eachS_any {n c q : Nat} {A : Option Addr} {ks : List Bs} (w : World) (hK : Tx w A ks) (hn : n = ks.length) (hn9 : n ≤ 1000000) (hA : A = none → c = 0) (hc : n ≤ c) (hq : w.heap[q]? = some (.cells #[m1, m1] 43)) :
    Calls Tryz.prog 91 #[.slice A n c, .func (.func 92) #[] #[.pointer (some ⟨q, 0, none⟩)]] w fun e w' => (∃ R d, e = .returned (.slice R n d) ∧ RO w.heap.size w' 43 2 R d n (List.replicate (n * 2) m1)) ∧ Below w.heap.size w w' := by
  obtain ⟨ii, hi, hz0, hz1, hz2⟩ := info_parts (show (Tryz.prog.info? 43).map (fun i => (i.zero, i.size, i.bytes)) = some (some (.agg #[.int .i64 0, .int .i64 0]), 2, 16) by kernel_rfl)
  cases A with
  | none =>
    obtain rfl := hA rfl
    obtain rfl : n = 0 := by omega
    have hz := fun w => nilT_eq w
    clear hK hn hq
    go_enter Tryz.func91, Tryz.ntmps91
    go_wp2_with fail
    go_ret
    exact ⟨⟨_, _, rfl, .inl ⟨rfl, rfl, rfl, rfl⟩⟩, Below.refl _ _⟩
  | some ad =>
    have HK := Lib.hid hK
    have HN := Lib.hid hn
    have HQ0 := Lib.hid hq
    have hz := fun w => nilT_ne w ad n c
    clear hK hn hA hq
    go_enter Tryz.func91, Tryz.ntmps91
    go_wp2_with (at_make; refine wpList_make_own _ rfl _ _ 56 rfl w.heap.size 43 ii _ 2 Tryz.underlying56 hi hz0 hz1 .i64 .i64 _ n rfl rfl rfl (by rw [hz2]; omega) (by unfold maxLen; omega) (Nat.le_refl _) ?_; intro w1 hown1 hg1)
    have HB1 := Lib.hid (show Below w.heap.size w w1 from (Below.refl _ _).grown hg1 (Nat.le_refl _) (fun _ h => by cases h))
    have HR1 := Lib.hid hown1
    clear hown1 hg1
    go_loopw [5, 7, 15] (fun a _ i wx => ∃ k : Nat, k ≤ n ∧ i = .int .i64 k ∧ a = .slice (some ⟨w.heap.size, 0, none⟩) k n ∧ Hid (wx.ownsRow w.heap.size 43 2 (.slice (some ⟨w.heap.size, 0, none⟩) k n) k (List.replicate (k * 2) m1) ∧ Below w.heap.size w wx)) (fun _ _ i _ => n - (intOf i).toNat)
    case atStart => exact ⟨0, Nat.zero_le _, rfl, rfl, Lib.hid ⟨HR1.out, HB1.out⟩⟩
    case round =>
      obtain ⟨k, hk, rfl, rfl, HQ⟩ := hrel
      by_cases hlt : k < n
      · obtain ⟨t, ht⟩ := get_lt (l := ks) (i := k) (by rw [← HN.out]; exact hlt)
        obtain ⟨g1, o, e1, hg, hf⟩ := HK.out (by rw [← HN.out]; omega)
        injection e1 with e1
        subst e1
        have c5 := (HQ.out.2.cell (p := ⟨g1, o + k, none⟩) hg).trans (hf k t ht)
        obtain ⟨S, hS⟩ : ∃ S, S = txt t := ⟨_, rfl⟩
        rw [← hS] at c5
        have CE := Lib.hid (alone1_any (q := q) (S := S) wr ((HQ.out.2.block q (Array.getElem?_eq_some_iff.1 HQ0.out).1).trans HQ0.out))
        clear ht hf hg hS
        go_wp2_with fail
        refine CE.out.mono ?_
        rintro e w2 ⟨rfl, hb⟩
        have HB2 := Lib.hid (below_tr HQ.out.2 hb)
        have HO := Lib.hid (own_on HQ.out.1 fun k9 hk9 => hb.block k9 (HQ.out.1.lt k9 hk9).2)
        clear hb c5
        go_wp2_with (at_builtin; refine wpList_append_own_spare _ rfl (.tmp 19) (.tmp 23) 56 rfl w.heap.size 43 ii 2 Tryz.underlying56 hi hz1 w.heap.size k n _ rfl (HO.out.alloc _) ⟨w2.heap.size, 0, none⟩ 1 1 [m1, m1] rfl rfl (by intro j u hj; rw [addAt, Nat.zero_add]; have e := heap_alloc_new w2 (.cells #[m1, m1] 43); simp only [World.cell?, e]; simpa using hj) (by intro u hu; simp at hu; subst hu; rfl) (by omega) ?_; intro w3 hown3 hgr3)
        go_roundw
        case rel =>
          refine ⟨k + 1, by omega, by go_num, by first | rfl | trivial, Lib.hid ⟨?_, ?_⟩⟩
          · rw [rep_snoc2] at hown3; exact hown3
          · exact (below_tr HB2.out (below_new ..)).grown hgr3 (by have := HB2.out.size; have := s1 w2 (.cells #[m1, m1] 43); omega) (fun g e => by cases e; exact Nat.le_refl _)
        case measure => simp [intOf]; omega
      · obtain rfl : k = n := by omega
        go_wp2_with fail
        go_ret
        exact ⟨⟨_, _, rfl, .inr ⟨_, rfl, rfl, HQ.out.1⟩⟩, HQ.out.2⟩
set_option maxHeartbeats 8000000 in
theorem eachI_any {n c : Nat} {A : Option Addr} {l : List V} (w : World) (hK : Vr w A l) (hn : n = l.length) (hn9 : n ≤ 1000000) (hA : A = none → c = 0) (hc : n ≤ c) :
    Calls Tryz.prog 93 #[.slice A n c, .func (.func 94) #[] #[]] w fun e w' => (∃ R d, e = .returned (.slice R n d) ∧ RO w.heap.size w' 3 1 R d n (List.replicate n i0)) ∧ Below w.heap.size w w' := by
  obtain ⟨ii, hi, hz0, hz1, hz2⟩ := info_parts (show (Tryz.prog.info? 3).map (fun i => (i.zero, i.size, i.bytes)) = some (some (.int .i64 0), 1, 8) by kernel_rfl)
  cases A with
  | none =>
    obtain rfl := hA rfl
    obtain rfl : n = 0 := by omega
    have hz := fun w => nilV_eq w
    clear hK hn
    go_enter Tryz.func93, Tryz.ntmps93
    go_wp2_with fail
    go_ret
    exact ⟨⟨_, _, rfl, .inl ⟨rfl, rfl, rfl, rfl⟩⟩, Below.refl _ _⟩
  | some ad =>
    have HK := Lib.hid hK
    have HN := Lib.hid hn
    have hz := fun w => nilV_ne w ad n c
    clear hK hn hA
    go_enter Tryz.func93, Tryz.ntmps93
    go_wp2_with (at_make; refine wpList_make_own _ rfl _ _ 57 rfl w.heap.size 3 ii _ 1 Tryz.underlying57 hi hz0 hz1 .i64 .i64 _ n rfl rfl rfl (by rw [hz2]; omega) (by unfold maxLen; omega) (Nat.le_refl _) ?_; intro w1 hown1 hg1)
    have HB1 := Lib.hid (show Below w.heap.size w w1 from (Below.refl _ _).grown hg1 (Nat.le_refl _) (fun _ h => by cases h))
    have HR1 := Lib.hid hown1
    clear hown1 hg1
    go_loopw [5, 7, 15] (fun a _ i wx => ∃ k : Nat, k ≤ n ∧ i = .int .i64 k ∧ a = .slice (some ⟨w.heap.size, 0, none⟩) k n ∧ Hid (wx.ownsRow w.heap.size 3 1 (.slice (some ⟨w.heap.size, 0, none⟩) k n) k (List.replicate k i0) ∧ Below w.heap.size w wx)) (fun _ _ i _ => n - (intOf i).toNat)
    case atStart => exact ⟨0, Nat.zero_le _, rfl, rfl, Lib.hid ⟨HR1.out, HB1.out⟩⟩
    case round =>
      obtain ⟨k, hk, rfl, rfl, HQ⟩ := hrel
      by_cases hlt : k < n
      · obtain ⟨x, hx⟩ := get_lt (l := l) (i := k) (by rw [← HN.out]; exact hlt)
        obtain ⟨g1, o, e1, hg, hf⟩ := HK.out (by rw [← HN.out]; omega)
        injection e1 with e1
        subst e1
        obtain ⟨a0, a1, a2, a3, d0, d1, d2, d3, hvm⟩ := hf k x hx
        obtain ⟨uk, ut, uA, uB, un, uc, um, ud, rfl, rfl, rfl, rfl⟩ := Va.vshp hvm
        have c0 := (HQ.out.2.cell (p := ⟨g1, o + k * 4, none⟩) hg).trans d0
        have c1 := (HQ.out.2.cell (p := ⟨g1, o + k * 4 + 1, none⟩) hg).trans d1
        have c2 := (HQ.out.2.cell (p := ⟨g1, o + k * 4 + 2, none⟩) hg).trans d2
        have c3 := (HQ.out.2.cell (p := ⟨g1, o + k * 4 + 3, none⟩) hg).trans d3
        have HVM := Lib.hid (hvm.on HQ.out.2)
        have CE := Lib.hid (fun (X : World) (hX : Below wr.heap.size wr X) => alone2_any X (HVM.out.on hX))
        clear hx hf hg d0 d1 d2 d3 hvm
        go_wp2_with fail
        refine (CE.out _ (below_new ..)).mono ?_
        rintro e w2 ⟨rfl, hb⟩
        have hbb := below_tr (below_new wr (vO (.int .u8 uk) (.string ut) (.slice uA un uc) (.slice uB um ud))) hb
        have HB2 := Lib.hid (below_tr HQ.out.2 hbb)
        have HO := Lib.hid (own_on HQ.out.1 fun k9 hk9 => hbb.block k9 (HQ.out.1.lt k9 hk9).2)
        clear hb hbb c0 c1 c2 c3
        go_wp2_with (at_builtin; refine wpList_append_own_spare _ rfl (.tmp 19) (.tmp 23) 57 rfl w.heap.size 3 ii 1 Tryz.underlying57 hi hz1 w.heap.size k n _ rfl (HO.out.alloc _) ⟨w2.heap.size, 0, none⟩ 1 1 [i0] rfl rfl (by intro j u hj; rw [addAt, Nat.zero_add]; have e := heap_alloc_new w2 (.cells #[i0] 3); simp only [World.cell?, e]; simpa using hj) (by intro u hu; simp at hu; subst hu; rfl) (by omega) ?_; intro w3 hown3 hgr3)
        go_roundw
        case rel =>
          refine ⟨k + 1, by omega, by go_num, by first | rfl | trivial, Lib.hid ⟨?_, ?_⟩⟩
          · rw [rep_snoc] at hown3; exact hown3
          · exact (below_tr HB2.out (below_new ..)).grown hgr3 (by have := HB2.out.size; have := s1 w2 (.cells #[i0] 3); omega) (fun g e => by cases e; exact Nat.le_refl _)
        case measure => simp [intOf]; omega
      · obtain rfl : k = n := by omega
        go_wp2_with fail
        go_ret
        exact ⟨⟨_, _, rfl, .inr ⟨_, rfl, rfl, HQ.out.1⟩⟩, HQ.out.2⟩
end Tt
end Go.Proofs.YtggeiajbcehkjaaGreatDoor
/- What landed of trees: seven cells stored; rows of one's own. -/
namespace Go.Proofs.YtggeiajbcehkjaaGreatDoor
open Go.RowKit
open Va (Bs V v0 Tx Vm Vk Vr vO below_tr below_new heap_alloc_new get_lt vcells vm_zero clone_any own_on cell_eq TxO)
namespace Tt
set_option maxRecDepth 100000

/-- Seven cells stored. -/
abbrev set7 (w : World) (P : Nat) (a b c d e f g : Value) : World := ((((((w.setCell ⟨P, 0, none⟩ a).setCell ⟨P, 1, none⟩ b).setCell ⟨P, 2, none⟩ c).setCell ⟨P, 3, none⟩ d).setCell ⟨P, 4, none⟩ e).setCell ⟨P, 5, none⟩ f).setCell ⟨P, 6, none⟩ g
theorem set7_other (w : World) (P : Nat) (a b c d e f g : Value) (k : Nat) (h : k ≠ P) : (set7 w P a b c d e f g).heap[k]? = w.heap[k]? := by
  unfold set7
  rw [Go.RowKit.Below.heap_setCell _ _ _ _ h, Go.RowKit.Below.heap_setCell _ _ _ _ h, Go.RowKit.Below.heap_setCell _ _ _ _ h, Go.RowKit.Below.heap_setCell _ _ _ _ h, Go.RowKit.Below.heap_setCell _ _ _ _ h, Go.RowKit.Below.heap_setCell _ _ _ _ h, Go.RowKit.Below.heap_setCell _ _ _ _ h]
theorem set7_below {B : Nat} {w0 w : World} {P : Nat} (h : Below B w0 w) (hP : B ≤ P) (a b c d e f g : Value) : Below B w0 (set7 w P a b c d e f g) :=
  ((((((h.setCell (p := ⟨P, 0, none⟩) hP _).setCell (p := ⟨P, 1, none⟩) hP _).setCell (p := ⟨P, 2, none⟩) hP _).setCell (p := ⟨P, 3, none⟩) hP _).setCell (p := ⟨P, 4, none⟩) hP _).setCell (p := ⟨P, 5, none⟩) hP _).setCell (p := ⟨P, 6, none⟩) hP _
theorem set7_cell (w : World) (P : Nat) (a b c d e f g : Value) (k j : Nat) (h : k ≠ P) : (set7 w P a b c d e f g).cell? ⟨k, j, none⟩ = w.cell? ⟨k, j, none⟩ := by
  have := set7_other w P a b c d e f g k h
  unfold World.cell?; rw [this]
theorem set7_same {w : World} {P : Nat} {a b c d e f g : Value} (h : w.heap[P]? = some (nO [a, b, c, d, e, f, g])) (a' b' c' d' e' f' g' : Value) : (set7 w P a' b' c' d' e' f' g').heap[P]? = some (nO [a', b', c', d', e', f', g']) := by
  have h0 : (w.setCell ⟨P, 0, none⟩ a').heap[P]? = some (nO [a', b, c, d, e, f, g]) := Go.heap_setCell_same w P 0 _ _ a' h
  have h1 : ((w.setCell ⟨P, 0, none⟩ a').setCell ⟨P, 1, none⟩ b').heap[P]? = some (nO [a', b', c, d, e, f, g]) := Go.heap_setCell_same _ P 1 _ _ b' h0
  have h2 : (((w.setCell ⟨P, 0, none⟩ a').setCell ⟨P, 1, none⟩ b').setCell ⟨P, 2, none⟩ c').heap[P]? = some (nO [a', b', c', d, e, f, g]) := Go.heap_setCell_same _ P 2 _ _ c' h1
  have h3 : ((((w.setCell ⟨P, 0, none⟩ a').setCell ⟨P, 1, none⟩ b').setCell ⟨P, 2, none⟩ c').setCell ⟨P, 3, none⟩ d').heap[P]? = some (nO [a', b', c', d', e, f, g]) := Go.heap_setCell_same _ P 3 _ _ d' h2
  have h4 : (((((w.setCell ⟨P, 0, none⟩ a').setCell ⟨P, 1, none⟩ b').setCell ⟨P, 2, none⟩ c').setCell ⟨P, 3, none⟩ d').setCell ⟨P, 4, none⟩ e').heap[P]? = some (nO [a', b', c', d', e', f, g]) := Go.heap_setCell_same _ P 4 _ _ e' h3
  have h5 : ((((((w.setCell ⟨P, 0, none⟩ a').setCell ⟨P, 1, none⟩ b').setCell ⟨P, 2, none⟩ c').setCell ⟨P, 3, none⟩ d').setCell ⟨P, 4, none⟩ e').setCell ⟨P, 5, none⟩ f').heap[P]? = some (nO [a', b', c', d', e', f', g]) := Go.heap_setCell_same _ P 5 _ _ f' h4
  exact Go.heap_setCell_same _ P 6 _ _ g' h5
theorem RO.keep {lo : Nat} {w w' : World} {e : TypeId} {s : Nat} {R : Option Addr} {c n : Nat} {xs : List Value} (h : RO lo w e s R c n xs) (hb : ∀ g, lo ≤ g → g < w.heap.size → w'.heap[g]? = w.heap[g]?) : RO lo w' e s R c n xs := by
  rcases h with h | ⟨g, e1, e2, h⟩
  · exact .inl h
  · exact .inr ⟨g, e1, e2, own_on h fun k hk => hb k (h.lt k hk).1 (h.lt k hk).2⟩
theorem RO.low {lo lo' : Nat} {w : World} {e : TypeId} {s : Nat} {R : Option Addr} {c n : Nat} {xs : List Value} (h : RO lo w e s R c n xs) (hl : lo' ≤ lo) : RO lo' w e s R c n xs := by
  rcases h with h | ⟨g, e1, e2, h1, h2⟩
  · exact .inl h
  · refine .inr ⟨g, e1, e2, h1, ?_⟩
    rcases h2 with h2 | ⟨g', c', cur, e3, hb, r⟩
    · exact .inl h2
    · exact .inr ⟨g', c', cur, e3, Nat.le_trans hl hb, r⟩
theorem txo_ro {lo : Nat} {w : World} {K : Option Addr} {d : Nat} {ks : List Bs} (h : TxO lo w K d ks) : RO lo w 9 1 K d ks.length (ks.map fun t => .string (txt t)) := by
  rcases h with ⟨e1, e2, e3⟩ | ⟨g, e1, e2, h⟩
  · subst e2; exact .inl ⟨e1, rfl, e3, rfl⟩
  · exact .inr ⟨g, e1, e2, h⟩
end Tt
end Go.Proofs.YtggeiajbcehkjaaGreatDoor
/- Trees in the making: a row of nodes of one's own, each with rows of its own. -/
namespace Go.Proofs.YtggeiajbcehkjaaGreatDoor
open Go.RowKit
open Va (Bs V v0 Tx Vm Vk Vr vO below_tr below_new heap_alloc_new get_lt own_on cell_eq own_cells)
namespace Tt
set_option maxRecDepth 100000

/-- A row of spans, of ints, cell by cell. -/
def spC (L : List (Int × Int)) : List Value := L.flatMap fun s => [.int .i64 s.1, .int .i64 s.2]
def inC (L : List Int) : List Value := L.map fun z => .int .i64 z
def txC (L : List Bs) : List Value := L.map fun t => .string (txt t)
theorem spC_rep (n : Nat) : spC (List.replicate n (-1, -1)) = List.replicate (n * 2) m1 := by
  induction n with
  | zero => rfl
  | succ n ih =>
    rw [List.replicate_succ, show (n + 1) * 2 = n * 2 + 1 + 1 by omega, List.replicate_succ, List.replicate_succ, ← ih]; rfl
theorem inC_rep (n : Nat) : inC (List.replicate n 0) = List.replicate n i0 := by unfold inC; rw [List.map_replicate]
theorem spC_at : ∀ (L : List (Int × Int)) (i : Nat) (s : Int × Int), L[i]? = some s → (spC L)[i * 2]? = some (.int .i64 s.1) ∧ (spC L)[i * 2 + 1]? = some (.int .i64 s.2)
  | [], _, _, h => by simp at h
  | x :: r, 0, s, h => by obtain rfl : x = s := by simpa using h
                          exact ⟨rfl, rfl⟩
  | x :: r, i + 1, s, h => by
    have ih := spC_at r i s (by simpa using h)
    have e : spC (x :: r) = .int .i64 x.1 :: .int .i64 x.2 :: spC r := rfl
    rw [e, show (i + 1) * 2 = i * 2 + 1 + 1 by omega, show i * 2 + 1 + 1 + 1 = (i * 2 + 1) + 1 + 1 by omega]
    simpa using ih
/-- A node's rows, each one's own, in blocks from lo on and below hi. -/
structure OwnR (lo hi : Nat) (w : World) (x : Nd) (K S U : Option Addr) (a b c : Nat) : Prop where
  k : x.kind < 256
  ka : x.keys.length ≤ 1000000
  sb : x.spots.length ≤ 1000000
  uc : x.subs.length ≤ 1000000
  rk : RO lo w 9 1 K a x.keys.length (txC x.keys)
  rs : RO lo w 43 2 S b x.spots.length (spC x.spots)
  ru : RO lo w 3 1 U c x.subs.length (inC x.subs)
  hk : ∀ g o, K = some ⟨g, o, none⟩ → g < hi
  hs : ∀ g o, S = some ⟨g, o, none⟩ → g < hi
  hu : ∀ g o, U = some ⟨g, o, none⟩ → g < hi
  is : ∀ s ∈ x.spots, i64 s.1 ∧ i64 s.2
  iu : ∀ s ∈ x.subs, i64 s
  sp : i64 x.span.1 ∧ i64 x.span.2
theorem OwnR.keep {lo hi : Nat} {w w' : World} {x : Nd} {K S U : Option Addr} {a b c : Nat} (h : OwnR lo hi w x K S U a b c) (hb : ∀ g, lo ≤ g → g < hi → g < w.heap.size → w'.heap[g]? = w.heap[g]?) : OwnR lo hi w' x K S U a b c := by
  have kp : ∀ {e : TypeId} {s : Nat} {R : Option Addr} {d n : Nat} {xs : List Value}, (∀ g o, R = some ⟨g, o, none⟩ → g < hi) → RO lo w e s R d n xs → RO lo w' e s R d n xs := fun hh hr => by
    rcases hr with hr | ⟨g, e1, e2, hr⟩
    · exact .inl hr
    · exact .inr ⟨g, e1, e2, own_on hr fun k hk => by
        obtain rfl : g = k := by simpa [Value.ownBlock] using hk
        exact hb g (hr.lt g rfl).1 (hh g 0 e1) (hr.lt g rfl).2⟩
  exact { h with rk := kp h.hk h.rk, rs := kp h.hs h.rs, ru := kp h.hu h.ru }
theorem OwnR.wide {lo hi lo' hi' : Nat} {w : World} {x : Nd} {K S U : Option Addr} {a b c : Nat} (h : OwnR lo hi w x K S U a b c) (h1 : lo' ≤ lo) (h2 : hi ≤ hi') : OwnR lo' hi' w x K S U a b c :=
  { h with rk := h.rk.low h1, rs := h.rs.low h1, ru := h.ru.low h1, hk := fun g o e => Nat.lt_of_lt_of_le (h.hk g o e) h2, hs := fun g o e => Nat.lt_of_lt_of_le (h.hs g o e) h2, hu := fun g o e => Nat.lt_of_lt_of_le (h.hu g o e) h2 }
theorem RO.cap {lo : Nat} {w : World} {e : TypeId} {s : Nat} {R : Option Addr} {c n : Nat} {xs : List Value} (h : RO lo w e s R c n xs) (hn : n ≤ 1000000) : n ≤ c ∧ c ≤ maxLen ∧ (R = none → c = 0) := by
  rcases h with ⟨e1, e2, e3, _⟩ | ⟨g, e1, e2, _⟩
  · subst e2 e3; exact ⟨Nat.le_refl _, Nat.zero_le _, fun _ => rfl⟩
  · subst e1 e2; exact ⟨Nat.le_refl _, by unfold maxLen; omega, fun h => by cases h⟩
theorem OwnR.nr {lo hi : Nat} {w : World} {x : Nd} {K S U : Option Addr} {a b c : Nat} (h : OwnR lo hi w x K S U a b c) : Nr w x K S U a b c := by
  refine ⟨h.k, h.rk.cap h.ka, h.rs.cap h.sb, h.ru.cap h.uc, fun h0 => ?_, fun h0 => ?_, fun h0 => ?_, h.sp⟩
  · rcases h.rk with ⟨_, e2, _⟩ | ⟨g, rfl, _, hr⟩
    · omega
    · obtain ⟨g', e', _, hg, hf⟩ := own_cells hr h0
      injection e' with e'; injection e' with e' _ _; subst e'
      exact ⟨g, 0, rfl, hg, fun i t ht => by rw [Nat.zero_add]; exact hf i _ (by unfold txC; rw [List.getElem?_map, ht]; rfl)⟩
  · rcases h.rs with ⟨_, e2, _⟩ | ⟨g, rfl, _, hr⟩
    · omega
    · obtain ⟨g', e', _, hg, hf⟩ := own_cells hr h0
      injection e' with e'; injection e' with e' _ _; subst e'
      refine ⟨g, 0, rfl, hg, fun i s hs => ?_⟩
      obtain ⟨h1, h2⟩ := spC_at _ i s hs
      rw [Nat.zero_add]
      exact ⟨hf _ _ h1, hf _ _ h2, h.is s (List.mem_of_getElem? hs)⟩
  · rcases h.ru with ⟨_, e2, _⟩ | ⟨g, rfl, _, hr⟩
    · omega
    · obtain ⟨g', e', _, hg, hf⟩ := own_cells hr h0
      injection e' with e'; injection e' with e' _ _; subst e'
      exact ⟨g, 0, rfl, hg, fun i s hs => by rw [Nat.zero_add]; exact ⟨hf i _ (by unfold inC; rw [List.getElem?_map, hs]; rfl), h.iu s (List.mem_of_getElem? hs)⟩⟩
/-- The row of nodes, under way. -/
structure GR (base g C : Nat) (w : World) (L : List Nd) (B : Nat → Nat) : Prop where
  row : ∃ xs, w.ownsRow base 59 7 (.slice (some ⟨g, 0, none⟩) L.length C) L.length xs ∧ ∀ i x, L[i]? = some x → ∃ K S U a b c, (∀ (j : Nat) (u : Value), (ndC x K S U a b c)[j]? = some u → xs[i * 7 + j]? = some u) ∧ OwnR (B i) (B (i + 1)) w x K S U a b c
  mono : ∀ i, i < L.length → B i ≤ B (i + 1)
  low : g < B 0
  high : B L.length ≤ w.heap.size
theorem GR.mono2 {base g C : Nat} {w : World} {L : List Nd} {B : Nat → Nat} (h : GR base g C w L B) : ∀ {i j : Nat}, i ≤ j → j ≤ L.length → B i ≤ B j := by
  intro i j hij hj
  induction j with
  | zero => obtain rfl : i = 0 := by omega
            exact Nat.le_refl _
  | succ j ih =>
    by_cases e : i = j + 1
    · subst e; exact Nat.le_refl _
    · exact Nat.le_trans (ih (by omega) (by omega)) (h.mono j (by omega))
theorem GR.bg {base g C : Nat} {w : World} {L : List Nd} {B : Nat → Nat} (h : GR base g C w L B) : base ≤ g ∧ g < w.heap.size ∧ L.length ≤ C ∧ C ≤ maxLen := by
  obtain ⟨xs, ho, _⟩ := h.row
  have := ho.lt g rfl
  rcases ho.2 with ⟨e, _⟩ | ⟨g', c, cur, e, _, _, h1, h2, _⟩
  · cases e
  · injection e with _ _ e3; subst e3; exact ⟨this.1, this.2, h1, h2⟩
theorem GR.keep {base g C : Nat} {w w' : World} {L : List Nd} {B : Nat → Nat} (h : GR base g C w L B) (hb : ∀ k, (k = g ∨ B 0 ≤ k) → k < w.heap.size → w'.heap[k]? = w.heap[k]?) (hs : w.heap.size ≤ w'.heap.size) : GR base g C w' L B := by
  obtain ⟨xs, ho, hx⟩ := h.row
  refine ⟨⟨xs, own_on ho fun k hk => ?_, fun i x hi => ?_⟩, h.mono, h.low, Nat.le_trans h.high hs⟩
  · obtain rfl : g = k := by simpa [Value.ownBlock] using hk
    exact hb g (.inl rfl) h.bg.2.1
  · obtain ⟨K, S, U, a, b, c, h1, h2⟩ := hx i x hi
    have hil := (List.getElem?_eq_some_iff.1 hi).1
    exact ⟨K, S, U, a, b, c, h1, h2.keep fun k h3 _ h5 => hb k (.inr (Nat.le_trans (h.mono2 (Nat.zero_le i) (by omega)) h3)) h5⟩
theorem GR.on {base g C : Nat} {w w' : World} {L : List Nd} {B : Nat → Nat} (h : GR base g C w L B) (hb : Below w.heap.size w w') : GR base g C w' L B := h.keep (fun k _ hk => hb.block k hk) hb.size
/-- To be read. -/
theorem GR.nx {base g C : Nat} {w : World} {L : List Nd} {B : Nat → Nat} (h : GR base g C w L B) : Nx w (some ⟨g, 0, none⟩) L := fun h0 => by
  obtain ⟨xs, ho, hx⟩ := h.row
  obtain ⟨g', e', _, hg, hf⟩ := own_cells ho h0
  injection e' with e'; injection e' with e' _ _; subst e'
  refine ⟨g, 0, rfl, hg, fun i x hi => ?_⟩
  obtain ⟨K, S, U, a, b, c, h1, h2⟩ := hx i x hi
  exact ⟨K, S, U, a, b, c, fun j u hu => by rw [Nat.zero_add]; exact hf _ _ (h1 j u hu), h2.nr⟩
/-- A node more. -/
theorem GR.push {base g C : Nat} {w w' : World} {L : List Nd} {B : Nat → Nat} {xs : List Value} {x : Nd} {K S U : Option Addr} {a b c lo : Nat} (h : GR base g C w L B)
    (he : ∀ i y, L[i]? = some y → ∃ K S U a b c, (∀ (j : Nat) (u : Value), (ndC y K S U a b c)[j]? = some u → xs[i * 7 + j]? = some u) ∧ OwnR (B i) (B (i + 1)) w y K S U a b c) (hxs : xs.length = L.length * 7)
    (hgr : w.grownBy w' (some g)) (ho : w'.ownsRow base 59 7 (.slice (some ⟨g, 0, none⟩) (L.length + 1) C) (L.length + 1) (xs ++ ndC x K S U a b c)) (hlo : B L.length ≤ lo) (hlw : lo ≤ w.heap.size) (hn : OwnR lo w.heap.size w x K S U a b c) :
    GR base g C w' (L ++ [x]) (fun i => if i < L.length then B i else if i = L.length then lo else w'.heap.size) := by
  have hg0 := h.low
  have hB : ∀ i, i ≤ L.length → (if i < L.length then B i else if i = L.length then lo else w'.heap.size) = if i < L.length then B i else lo := fun i hi => by
    by_cases e : i < L.length
    · rw [if_pos e, if_pos e]
    · rw [if_neg e, if_neg e, if_pos (by omega)]
  have gl : g < lo := Nat.lt_of_lt_of_le hg0 (Nat.le_trans (h.mono2 (Nat.zero_le _) (Nat.le_refl _)) hlo)
  refine ⟨⟨xs ++ ndC x K S U a b c, by rw [List.length_append]; exact ho, fun i y hi => ?_⟩, fun i hi => ?_, ?_, ?_⟩
  · rcases Nat.lt_or_ge i L.length with h1 | h1
    · rw [List.getElem?_append_left h1] at hi
      obtain ⟨K', S', U', a', b', c', e1, e2⟩ := he i y hi
      refine ⟨K', S', U', a', b', c', fun j u hu => ?_, ?_⟩
      · have := e1 j u hu
        rw [List.getElem?_append_left (List.getElem?_eq_some_iff.1 this).1]; exact this
      · have e3 : OwnR (B i) (B (i + 1)) w' y K' S' U' a' b' c' := e2.keep fun k h3 h4 h5 => hgr.block k h5 (by
          have := h.mono2 (Nat.zero_le i) (by omega)
          simp; omega)
        show OwnR (if i < L.length then B i else if i = L.length then lo else w'.heap.size) (if i + 1 < L.length then B (i + 1) else if i + 1 = L.length then lo else w'.heap.size) w' y K' S' U' a' b' c'
        rw [if_pos h1]
        by_cases e : i + 1 < L.length
        · rw [if_pos e]; exact e3
        · have e9 : i + 1 = L.length := by omega
          rw [if_neg e, if_pos e9]; rw [e9] at e3; exact e3.wide (Nat.le_refl _) hlo
    · have hi2 : i = L.length := by
        have := (List.getElem?_eq_some_iff.1 hi).1
        simp at this; omega
      subst hi2
      rw [List.getElem?_append_right (Nat.le_refl _), Nat.sub_self] at hi
      obtain rfl : x = y := by simpa using hi
      refine ⟨K, S, U, a, b, c, fun j u hu => ?_, ?_⟩
      · rw [← hxs, List.getElem?_append_right (by omega), Nat.add_sub_cancel_left]; exact hu
      · show OwnR (if L.length < L.length then B L.length else if L.length = L.length then lo else w'.heap.size) (if L.length + 1 < L.length then B (L.length + 1) else if L.length + 1 = L.length then lo else w'.heap.size) w' x K S U a b c
        rw [if_neg (by omega), if_pos rfl, if_neg (by omega), if_neg (by omega)]
        exact (hn.keep fun k h3 _ h5 => hgr.block k h5 (by simp; omega)).wide (Nat.le_refl _) hgr.size
  · rw [List.length_append] at hi
    have hi : i ≤ L.length := by simp at hi; omega
    show (if i < L.length then B i else if i = L.length then lo else w'.heap.size) ≤ (if i + 1 < L.length then B (i + 1) else if i + 1 = L.length then lo else w'.heap.size)
    by_cases e : i < L.length
    · rw [if_pos e]
      by_cases e2 : i + 1 < L.length
      · rw [if_pos e2]; exact h.mono i e
      · rw [if_neg e2, if_pos (by omega)]
        exact Nat.le_trans (h.mono2 (Nat.le_of_lt e) (Nat.le_refl _)) hlo
    · rw [if_neg e, if_pos (by omega), if_neg (by omega), if_neg (by omega)]
      exact Nat.le_trans hlw hgr.size
  · show g < if 0 < L.length then B 0 else if 0 = L.length then lo else w'.heap.size
    by_cases e : 0 < L.length
    · rw [if_pos e]; exact hg0
    · rw [if_neg e, if_pos (by omega)]; exact gl
  · show (if (L ++ [x]).length < L.length then B (L ++ [x]).length else if (L ++ [x]).length = L.length then lo else w'.heap.size) ≤ w'.heap.size
    rw [List.length_append, if_neg (by simp), if_neg (by simp)]
    exact Nat.le_refl _
end Tt
end Go.Proofs.YtggeiajbcehkjaaGreatDoor
