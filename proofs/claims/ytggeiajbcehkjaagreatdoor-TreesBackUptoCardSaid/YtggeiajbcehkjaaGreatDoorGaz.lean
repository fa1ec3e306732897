/- What landed of values: the small ones; which texts may be. -/
import Derived.Test.YtggeiajbcehkjaaGreatDoorGax
import Derived.BigQuiet
import Derived.Lib.Strings
import Derived.Test.YtggeiajbcehkjaaGreatDoorGay
namespace Go.Proofs.YtggeiajbcehkjaaGreatDoor
open Go.RowKit
namespace Va

/-- A list, or a map? -/
def ptd (k : Nat) : Bool := decide (k = 7 ∨ k = 8)
theorem parted_any (k : Nat) (w : World) : Calls Tryz.prog 66 #[.int .u8 k] w fun e w' => e = .returned (.bool (ptd k)) ∧ w = w' := by
  by_cases h7 : k = 7
  · subst h7
    go_enter Tryz.func66, Tryz.ntmps66
    go_wp2_with fail
    go_ret
    exact ⟨ret_bool (by simp [ptd]), rfl⟩
  · have f7 : ((k : Int) == 7) = false := beq_eq_false_iff_ne.2 (by omega)
    by_cases h8 : k = 8
    · subst h8
      go_enter Tryz.func66, Tryz.ntmps66
      go_wp2_with fail
      go_ret
      exact ⟨ret_bool (by simp [ptd]), rfl⟩
    · have f8 : ((k : Int) == 8) = false := beq_eq_false_iff_ne.2 (by omega)
      go_enter Tryz.func66, Tryz.ntmps66
      go_wp2_with fail
      go_ret
      exact ⟨ret_bool (by simp [ptd, h7, h8]), rfl⟩
theorem parted_is {k : Nat} {x : Bool} (hx : x = ptd k) (w : World) : Calls Tryz.prog 66 #[.int .u8 k] w fun e w' => e = .returned (.bool x) ∧ w = w' := hx ▸ parted_any k w
theorem nan_any (k : Nat) (w : World) : Calls Tryz.prog 110 #[.int .u8 k] w fun e w' => e = .returned (.bool false) ∧ w = w' := by
  go_enter Tryz.func110, Tryz.ntmps110
  go_wp2_with fail
  go_ret
  exact ⟨ret_bool (by simp), rfl⟩
/-- How two orders' answers stand as numbers. -/
def oN : Ordering → Int
  | .lt => -1
  | .eq => 0
  | .gt => 1
theorem kinds_any (i j : Nat) (w : World) : Calls Tryz.prog 83 #[.int .u8 i, .int .u8 j] w fun e w' => e = .returned (.int .i64 (oN (ncmp i j))) ∧ w = w' := by
  have C1 := Lib.hid (nan_any i)
  have C2 := Lib.hid (nan_any j)
  rcases Nat.lt_trichotomy i j with h | h | h
  · have hE := Lib.hid (show oN (ncmp i j) = -1 by rw [ncmp, if_pos h]; rfl)
    go_enter Tryz.func83, Tryz.ntmps83
    go_wp2_with fail
    refine (C1.out _).mono ?_
    rintro e w1 ⟨rfl, rfl⟩
    go_wp2_with fail
    refine (C2.out _).mono ?_
    rintro e w2 ⟨rfl, rfl⟩
    go_wp2_with fail
    go_ret
    exact ⟨ret_int hE.out.symm, rfl⟩
  · subst h
    have hE := Lib.hid (show oN (ncmp i i) = 0 by rw [ncmp_self]; rfl)
    go_enter Tryz.func83, Tryz.ntmps83
    go_wp2_with fail
    refine (C1.out _).mono ?_
    rintro e w1 ⟨rfl, rfl⟩
    go_wp2_with fail
    refine (C2.out _).mono ?_
    rintro e w2 ⟨rfl, rfl⟩
    go_wp2_with fail
    go_ret
    exact ⟨ret_int hE.out.symm, rfl⟩
  · have hE := Lib.hid (show oN (ncmp i j) = 1 by rw [ncmp, if_neg (by omega), if_pos h]; rfl)
    have hn : ¬ (i : Int) < (j : Int) := by omega
    go_enter Tryz.func83, Tryz.ntmps83
    go_wp2_with fail
    refine (C1.out _).mono ?_
    rintro e w1 ⟨rfl, rfl⟩
    go_wp2_with fail
    refine (C2.out _).mono ?_
    rintro e w2 ⟨rfl, rfl⟩
    go_wp2_with fail
    go_ret
    exact ⟨ret_int hE.out.symm, rfl⟩
end Va
end Go.Proofs.YtggeiajbcehkjaaGreatDoor
/- What landed of values: may a value that is no list, and no map, have its text? -/
namespace Go.Proofs.YtggeiajbcehkjaaGreatDoor
open Go.RowKit
namespace Va

/-- May what has no parts have its text? -/
def mayT (k : Nat) (t : Bs) : Bool := if k = 0 then decide (t = []) else if k = 1 then decide (t = [116, 114, 117, 101] ∨ t = [102, 97, 108, 115, 101]) else if k = 2 ∨ k = 4 ∨ k = 5 ∨ k = 6 then decide (t ≠ []) else decide (k = 3)
theorem mayT_iff {k : Nat} {t : Bs} (h : ptd k = false) : mayT k t = true ↔ (k ≤ 8 ∧ tx k t) := by
  have h' : ¬ (k = 7 ∨ k = 8) := of_decide_eq_false h
  unfold mayT tx
  by_cases h0 : k = 0
  · subst h0; simp
  · by_cases h1 : k = 1
    · subst h1; simp
    · by_cases h3 : k = 3
      · subst h3; simp
      · rw [if_neg h0, if_neg h1, if_neg (show ¬ (k = 0 ∨ k = 7 ∨ k = 8) by omega), if_neg h1, if_neg h3]
        by_cases hk : k = 2 ∨ k = 4 ∨ k = 5 ∨ k = 6
        · rw [if_pos hk, decide_eq_true_eq]; exact ⟨fun e => ⟨by omega, e⟩, fun e => e.2⟩
        · rw [if_neg hk, decide_eq_true_eq]; exact ⟨fun e => absurd e h3, fun e => by omega⟩
set_option maxHeartbeats 4000000 in
set_option maxRecDepth 100000 in
theorem mayText_any {k : Nat} {t : Bs} {T : ByteArray} (B C : Value) (w : World) (hT : T = txt t) :
    Calls Tryz.prog 67 #[.agg #[.int .u8 k, .string T, B, C]] w fun e w' => e = .returned (.bool (mayT k t)) ∧ Below w.heap.size w w' := by
  obtain ⟨r, hr⟩ : ∃ r, r = mayT k t := ⟨_, rfl⟩
  have HR := Lib.hid hr
  rw [← hr]
  have HT := Lib.hid hT
  clear hr hT
  by_cases h0 : k = 0
  · subst h0
    by_cases ht : t = []
    · obtain rfl : r = true := by rw [HR.out, ht]; rfl
      obtain rfl : T = ⟨#[]⟩ := by rw [HT.out, ht]; rfl
      clear ht
      go_enter Tryz.func67, Tryz.ntmps67
      go_wp2_with fail
      go_ret
      exact ⟨by first | rfl | trivial, below_new ..⟩
    · obtain rfl : r = false := by rw [HR.out]; simp [mayT, ht]
      obtain ⟨f1, f2, f3⟩ := nonempty HT.out ht
      clear ht
      go_enter Tryz.func67, Tryz.ntmps67
      go_wp2_with fail
      go_ret
      exact ⟨by first | rfl | trivial, below_new ..⟩
  by_cases h1 : k = 1
  · subst h1
    clear h0
    by_cases ht : t = [116, 114, 117, 101]
    · obtain rfl : r = true := by rw [HR.out, ht]; rfl
      obtain rfl : T = ⟨#[116, 114, 117, 101]⟩ := by rw [HT.out, ht]; rfl
      clear ht
      go_enter Tryz.func67, Tryz.ntmps67
      go_wp2_with fail
      go_ret
      exact ⟨by first | rfl | trivial, below_new ..⟩
    by_cases ht2 : t = [102, 97, 108, 115, 101]
    · obtain rfl : r = true := by rw [HR.out, ht2]; rfl
      obtain rfl : T = ⟨#[102, 97, 108, 115, 101]⟩ := by rw [HT.out, ht2]; rfl
      clear ht ht2
      go_enter Tryz.func67, Tryz.ntmps67
      go_wp2_with fail
      go_ret
      exact ⟨by first | rfl | trivial, below_new ..⟩
    · obtain rfl : r = false := by rw [HR.out]; simp [mayT, ht, ht2]
      obtain ⟨f1, f2⟩ := unlike HT.out ht
      obtain ⟨f3, f4⟩ := unlike HT.out ht2
      clear ht ht2
      go_enter Tryz.func67, Tryz.ntmps67
      go_wp2_with fail
      go_ret
      exact ⟨by first | rfl | trivial, below_new ..⟩
  have n0 : ((k : Int) == 0) = false := beq_eq_false_iff_ne.2 (by omega)
  have n1 : ((k : Int) == 1) = false := beq_eq_false_iff_ne.2 (by omega)
  by_cases h2 : k = 2
  · subst h2
    clear n0 n1 h0 h1
    by_cases ht : t = []
    · obtain rfl : r = false := by rw [HR.out, ht]; rfl
      obtain rfl : T = ⟨#[]⟩ := by rw [HT.out, ht]; rfl
      clear ht
      go_enter Tryz.func67, Tryz.ntmps67
      go_wp2_with fail
      go_ret
      exact ⟨by first | rfl | trivial, below_new ..⟩
    · obtain rfl : r = true := by rw [HR.out]; simp [mayT, ht]
      obtain ⟨f1, f2, f3⟩ := nonempty HT.out ht
      clear ht
      go_enter Tryz.func67, Tryz.ntmps67
      go_wp2_with fail
      go_ret
      exact ⟨by first | rfl | trivial, below_new ..⟩
  have n2 : ((k : Int) == 2) = false := beq_eq_false_iff_ne.2 (by omega)
  by_cases h4 : k = 4
  · subst h4
    clear n0 n1 h0 h1 n2 h2
    by_cases ht : t = []
    · obtain rfl : r = false := by rw [HR.out, ht]; rfl
      obtain rfl : T = ⟨#[]⟩ := by rw [HT.out, ht]; rfl
      clear ht
      go_enter Tryz.func67, Tryz.ntmps67
      go_wp2_with fail
      go_ret
      exact ⟨by first | rfl | trivial, below_new ..⟩
    · obtain rfl : r = true := by rw [HR.out]; simp [mayT, ht]
      obtain ⟨f1, f2, f3⟩ := nonempty HT.out ht
      clear ht
      go_enter Tryz.func67, Tryz.ntmps67
      go_wp2_with fail
      go_ret
      exact ⟨by first | rfl | trivial, below_new ..⟩
  have n4 : ((k : Int) == 4) = false := beq_eq_false_iff_ne.2 (by omega)
  by_cases h5 : k = 5
  · subst h5
    clear n0 n1 h0 h1 n2 n4 h2 h4
    by_cases ht : t = []
    · obtain rfl : r = false := by rw [HR.out, ht]; rfl
      obtain rfl : T = ⟨#[]⟩ := by rw [HT.out, ht]; rfl
      clear ht
      go_enter Tryz.func67, Tryz.ntmps67
      go_wp2_with fail
      go_ret
      exact ⟨by first | rfl | trivial, below_new ..⟩
    · obtain rfl : r = true := by rw [HR.out]; simp [mayT, ht]
      obtain ⟨f1, f2, f3⟩ := nonempty HT.out ht
      clear ht
      go_enter Tryz.func67, Tryz.ntmps67
      go_wp2_with fail
      go_ret
      exact ⟨by first | rfl | trivial, below_new ..⟩
  have n5 : ((k : Int) == 5) = false := beq_eq_false_iff_ne.2 (by omega)
  by_cases h6 : k = 6
  · subst h6
    clear n0 n1 h0 h1 n2 n4 n5 h2 h4 h5
    by_cases ht : t = []
    · obtain rfl : r = false := by rw [HR.out, ht]; rfl
      obtain rfl : T = ⟨#[]⟩ := by rw [HT.out, ht]; rfl
      clear ht
      go_enter Tryz.func67, Tryz.ntmps67
      go_wp2_with fail
      go_ret
      exact ⟨by first | rfl | trivial, below_new ..⟩
    · obtain rfl : r = true := by rw [HR.out]; simp [mayT, ht]
      obtain ⟨f1, f2, f3⟩ := nonempty HT.out ht
      clear ht
      go_enter Tryz.func67, Tryz.ntmps67
      go_wp2_with fail
      go_ret
      exact ⟨by first | rfl | trivial, below_new ..⟩
  have n6 : ((k : Int) == 6) = false := beq_eq_false_iff_ne.2 (by omega)
  by_cases h3 : k = 3
  · subst h3
    obtain rfl : r = true := by rw [HR.out]; rfl
    clear n0 n1 n2 n4 n5 n6 h0 h1 h2 h4 h5 h6
    · skip
      go_enter Tryz.func67, Tryz.ntmps67
      go_wp2_with fail
      go_ret
      exact ⟨by first | rfl | trivial, below_new ..⟩
  · have n3 : ((k : Int) == 3) = false := beq_eq_false_iff_ne.2 (by omega)
    obtain rfl : r = false := by rw [HR.out, mayT, if_neg h0, if_neg h1, if_neg (by omega)]; exact decide_eq_false h3
    clear h0 h1 h2 h4 h5 h6 h3
    · skip
      go_enter Tryz.func67, Tryz.ntmps67
      go_wp2_with fail
      go_ret
      exact ⟨by first | rfl | trivial, below_new ..⟩
end Va
end Go.Proofs.YtggeiajbcehkjaaGreatDoor
/- What landed of values: over parts, one behind the other (answers that are no memory). -/
namespace Go.Proofs.YtggeiajbcehkjaaGreatDoor
open Go.RowKit
namespace Va

theorem fold_drop {α : Type} {st : α → V → α} {l : List V} {i : Nat} {x : V} {a : α} (h : l[i]? = some x) : (l.drop i).foldl st a = (l.drop (i + 1)).foldl st (st a x) := by
  have hl := (List.getElem?_eq_some_iff.1 h).1
  have e : l[i] = x := (List.getElem?_eq_some_iff.1 h).2
  rw [List.drop_eq_getElem_cons hl, List.foldl_cons, e]
theorem fold_end {α : Type} {st : α → V → α} {l : List V} {i : Nat} {a : α} (h : l.length ≤ i) : (l.drop i).foldl st a = a := by rw [List.drop_eq_nil_of_le h]; rfl
theorem vshp {w : World} {v0 v1 v2 v3 : Value} {x : V} (h : Vm w (.agg #[v0, v1, v2, v3]) x) : ∃ (k : Nat) (t : ByteArray) (A B : Option Addr) (n c m d : Nat), v0 = .int .u8 k ∧ v1 = .string t ∧ v2 = .slice A n c ∧ v3 = .slice B m d := by
  cases h with
  | mk k t l ks A B c d f => exact ⟨k, _, A, B, _, c, _, d, rfl, rfl, rfl, rfl⟩
set_option maxHeartbeats 4000000 in
set_option maxRecDepth 100000 in
theorem overB_any {l : List V} {A : Option Addr} {c : Nat} {b0 : Bool} (st : Bool → V → Bool) (I : Nat → Bool → Prop) (q : Nat) (w : World) (hV : Vr w A l) (hn : l.length ≤ 1000000) (h0 : I 0 b0)
    (hI : ∀ (i : Nat) (x : V) (b : Bool), l[i]? = some x → I i b → I (i + 1) (st b x))
    (H : ∀ (i : Nat) (x : V) (v : Value) (w' : World) (b : Bool), l[i]? = some x → I i b → Vm w' v x → Below w.heap.size w w' → Calls Tryz.prog 70 #[.bool b, v, .pointer (some ⟨q, 0, none⟩)] w' fun e w'' => e = .returned (.bool (st b x)) ∧ Below w'.heap.size w' w'') :
    Calls Tryz.prog 69 #[.slice A l.length c, .bool b0, .func (.func 70) #[] #[.pointer (some ⟨q, 0, none⟩)]] w fun e w' => e = .returned (.bool (l.foldl st b0)) ∧ Below w.heap.size w w' := by
  obtain ⟨R, hR⟩ : ∃ R, R = l.foldl st b0 := ⟨_, rfl⟩
  rw [← hR]
  obtain ⟨n, HN⟩ : ∃ n, Hid (n = l.length) := ⟨_, Lib.hid rfl⟩
  rw [← HN.out] at hn ⊢
  have HV := Lib.hid hV
  have HH := Lib.hid H
  have HR := Lib.hid hR
  have HI0 := Lib.hid h0
  have HI := Lib.hid hI
  clear hV H hR h0 hI
  go_enter Tryz.func69, Tryz.ntmps69
  go_wp2_with fail
  go_loopw [1, 8, 11] (fun a b i wx => Hid (Below w.heap.size w wx) ∧ ∃ (k : Nat) (z : Bool), k ≤ n ∧ i = .int .i64 k ∧ a = .bool z ∧ Hid ((l.drop k).foldl st z = R ∧ I k z)) (fun _ _ i _ => n - (intOf i).toNat)
  case atStart => exact ⟨Lib.hid (Below.refl _ _), 0, b0, Nat.zero_le _, rfl, rfl, Lib.hid ⟨by rw [HR.out, List.drop_zero], HI0.out⟩⟩
  case round =>
    obtain ⟨HB, k, z, hk, rfl, rfl, HQ⟩ := hrel
    by_cases hlt : k < n
    · obtain ⟨x, hx⟩ := get_lt (l := l) (i := k) (by rw [← HN.out]; exact hlt)
      obtain ⟨g', o, rfl, hg, hf⟩ := HV.out (by rw [← HN.out]; omega)
      obtain ⟨v0, v1, v2, v3, d0, d1, d2, d3, hvm⟩ := hf k x hx
      have c0 := cell_old HB.out hg d0
      have c1 := cell_old HB.out hg d1
      have c2 := cell_old HB.out hg d2
      have c3 := cell_old HB.out hg d3
      obtain ⟨uk, ut, uA, uB, un, uc, um, ud, rfl, rfl, rfl, rfl⟩ := vshp hvm
      obtain ⟨y, HY⟩ : ∃ y, Hid (y = st z x) := ⟨_, Lib.hid rfl⟩
      have HE := Lib.hid (show (l.drop (k + 1)).foldl st y = R ∧ I (k + 1) y from by rw [HY.out]; exact ⟨by rw [← HQ.out.1, fold_drop hx], HI.out k x z hx HQ.out.2⟩)
      have CH := Lib.hid (fun (w' : World) (hb : Below wr.heap.size wr w') => by
        have := HH.out k x _ w' z hx HQ.out.2 (hvm.on (below_tr HB.out hb)) (below_tr HB.out hb)
        rw [← HY.out] at this
        exact this)
      clear d0 d1 d2 d3 hvm hf hx
      go_wp2_with fail
      refine (CH.out _ (below_new ..)).mono ?_
      rintro e w2 ⟨rfl, hb2⟩
      have HB2 := Lib.hid (below_tr HB.out (below_tr (below_new ..) hb2))
      clear hb2 c0 c1 c2 c3
      go_wp2_with fail
      go_roundw
      case rel => exact ⟨HB2, k + 1, y, by omega, by go_num, by first | rfl | trivial, HE⟩
      case measure => simp [intOf]; omega
    · have HE := Lib.hid (show z = R from by rw [← HQ.out.1, fold_end (by rw [← HN.out]; omega)])
      go_wp2_with fail
      go_ret
      exact ⟨by rw [HE.out]; rfl, HB.out⟩
set_option maxHeartbeats 4000000 in
set_option maxRecDepth 100000 in
theorem overS_any {l : List V} {A : Option Addr} {c : Nat} {b0 : Nat} (st : Nat → V → Nat) (I : Nat → Nat → Prop) (w : World) (hV : Vr w A l) (hn : l.length ≤ 1000000) (h0 : I 0 b0)
    (hI : ∀ (i : Nat) (x : V) (b : Nat), l[i]? = some x → I i b → I (i + 1) (st b x))
    (H : ∀ (i : Nat) (x : V) (v : Value) (w' : World) (b : Nat), l[i]? = some x → I i b → Vm w' v x → Below w.heap.size w w' → Calls Tryz.prog 72 #[.int .i64 (b : Nat), v] w' fun e w'' => e = .returned (.int .i64 ((st b x) : Nat)) ∧ Below w'.heap.size w' w'') :
    Calls Tryz.prog 71 #[.slice A l.length c, .int .i64 (b0 : Nat), .func (.func 72) #[] #[]] w fun e w' => e = .returned (.int .i64 ((l.foldl st b0) : Nat)) ∧ Below w.heap.size w w' := by
  obtain ⟨R, hR⟩ : ∃ R, R = l.foldl st b0 := ⟨_, rfl⟩
  rw [← hR]
  obtain ⟨n, HN⟩ : ∃ n, Hid (n = l.length) := ⟨_, Lib.hid rfl⟩
  rw [← HN.out] at hn ⊢
  have HV := Lib.hid hV
  have HH := Lib.hid H
  have HR := Lib.hid hR
  have HI0 := Lib.hid h0
  have HI := Lib.hid hI
  clear hV H hR h0 hI
  go_enter Tryz.func71, Tryz.ntmps71
  go_wp2_with fail
  go_loopw [1, 8, 11] (fun a b i wx => Hid (Below w.heap.size w wx) ∧ ∃ (k : Nat) (z : Nat), k ≤ n ∧ i = .int .i64 k ∧ a = .int .i64 (z : Nat) ∧ Hid ((l.drop k).foldl st z = R ∧ I k z)) (fun _ _ i _ => n - (intOf i).toNat)
  case atStart => exact ⟨Lib.hid (Below.refl _ _), 0, b0, Nat.zero_le _, rfl, rfl, Lib.hid ⟨by rw [HR.out, List.drop_zero], HI0.out⟩⟩
  case round =>
    obtain ⟨HB, k, z, hk, rfl, rfl, HQ⟩ := hrel
    by_cases hlt : k < n
    · obtain ⟨x, hx⟩ := get_lt (l := l) (i := k) (by rw [← HN.out]; exact hlt)
      obtain ⟨g', o, rfl, hg, hf⟩ := HV.out (by rw [← HN.out]; omega)
      obtain ⟨v0, v1, v2, v3, d0, d1, d2, d3, hvm⟩ := hf k x hx
      have c0 := cell_old HB.out hg d0
      have c1 := cell_old HB.out hg d1
      have c2 := cell_old HB.out hg d2
      have c3 := cell_old HB.out hg d3
      obtain ⟨uk, ut, uA, uB, un, uc, um, ud, rfl, rfl, rfl, rfl⟩ := vshp hvm
      obtain ⟨y, HY⟩ : ∃ y, Hid (y = st z x) := ⟨_, Lib.hid rfl⟩
      have HE := Lib.hid (show (l.drop (k + 1)).foldl st y = R ∧ I (k + 1) y from by rw [HY.out]; exact ⟨by rw [← HQ.out.1, fold_drop hx], HI.out k x z hx HQ.out.2⟩)
      have CH := Lib.hid (fun (w' : World) (hb : Below wr.heap.size wr w') => by
        have := HH.out k x _ w' z hx HQ.out.2 (hvm.on (below_tr HB.out hb)) (below_tr HB.out hb)
        rw [← HY.out] at this
        exact this)
      clear d0 d1 d2 d3 hvm hf hx
      go_wp2_with fail
      refine (CH.out _ (below_new ..)).mono ?_
      rintro e w2 ⟨rfl, hb2⟩
      have HB2 := Lib.hid (below_tr HB.out (below_tr (below_new ..) hb2))
      clear hb2 c0 c1 c2 c3
      go_wp2_with fail
      go_roundw
      case rel => exact ⟨HB2, k + 1, y, by omega, by go_num, by first | rfl | trivial, HE⟩
      case measure => simp [intOf]; omega
    · have HE := Lib.hid (show z = R from by rw [← HQ.out.1, fold_end (by rw [← HN.out]; omega)])
      go_wp2_with fail
      go_ret
      exact ⟨by rw [HE.out]; rfl, HB.out⟩
end Va
end Go.Proofs.YtggeiajbcehkjaaGreatDoor
/- What landed of values: may a value be (over what it asks of keys); its size, how deep it is. -/
namespace Go.Proofs.YtggeiajbcehkjaaGreatDoor
open Go.RowKit
namespace Va

/-- What is asked of mayKeys. -/
def KeysC : Prop := ∀ {k : Nat} {t : Bs} {l : List V} {ks : List Bs} {v : Value} (w : World), Vm w v (.mk k t l ks) → k = 7 ∨ k = 8 → wt (.mk k t l ks) ≤ 1000000 →
  Calls Tryz.prog 68 #[v] w fun e w' => e = .returned (.bool (decide ((k = 7 → ks = []) ∧ (k = 8 → ks.length = l.length ∧ ks.Nodup)))) ∧ Below w.heap.size w w'
/-- May a value be that is so deep at most? -/
def mayD (d : Nat) (x : V) : Bool := decide (dp x ≤ d) && pl x
theorem mayD_list {d : Nat} : ∀ (l : List V) (b : Bool), l.foldl (fun b x => b && mayD d x) b = (b && (decide (dpL l ≤ d) && plL l))
  | [], b => by simp [dpL, plL]
  | x :: r, b => by
    have e : decide (max (dp x) (dpL r) ≤ d) = (decide (dp x ≤ d) && decide (dpL r ≤ d)) := by rw [← Bool.decide_and]; exact decide_eq_decide.2 (by omega)
    rw [List.foldl_cons, mayD_list r, dpL, plL, mayD, e]
    cases b <;> cases pl x <;> cases plL r <;> cases decide (dp x ≤ d) <;> cases decide (dpL r ≤ d) <;> rfl
theorem mayD_leaf {d k : Nat} {t : Bs} {l : List V} {ks : List Bs} (h : ptd k = false) : mayD d (.mk k t l ks) = (decide (l.length = 0) && decide (ks.length = 0) && mayT k t) := by
  have h' : ¬ (k = 7 ∨ k = 8) := of_decide_eq_false h
  have e := mayT_iff (t := t) h
  rw [mayD, dp, if_neg h', pl]
  cases l with
  | cons x r => simp [plH]; intro h1; omega
  | nil =>
    cases ks with
    | cons s q => simp [plH]; intro h1 h2; omega
    | nil =>
      have : plL ([] : List V) = true := by rw [plL]
      simp only [List.length_nil, this, Bool.and_true, decide_true, Bool.true_and, Nat.zero_le]
      cases hm : mayT k t with
      | true => have := e.1 hm; exact decide_eq_true ⟨this.1, .inr rfl, .inr rfl, this.2, fun _ => rfl, List.nodup_nil⟩
      | false => exact decide_eq_false fun p => by rw [e.2 ⟨p.1, p.2.2.2.1⟩] at hm; cases hm
theorem mayD_part {d k : Nat} {t : Bs} {l : List V} {ks : List Bs} (h : ptd k = true) : mayD d (.mk k t l ks) = (decide (d ≠ 0) && decide (t = []) && decide ((k = 7 → ks = []) ∧ (k = 8 → ks.length = l.length ∧ ks.Nodup)) && (decide (dpL l ≤ d - 1) && plL l)) := by
  have h' : k = 7 ∨ k = 8 := of_decide_eq_true h
  rw [mayD, dp, if_pos h', pl]
  have e : plH k t l.length ks = (decide (t = []) && decide ((k = 7 → ks = []) ∧ (k = 8 → ks.length = l.length ∧ ks.Nodup))) := by
    unfold plH tx
    rw [← Bool.decide_and]
    refine decide_eq_decide.2 ⟨fun ⟨_, p2, _, p4, p5, p6⟩ => ?_, fun ⟨q1, q2, q3⟩ => ?_⟩
    · rw [if_pos (by omega)] at p4
      exact ⟨p4, fun e => by rcases p2 with p2 | p2; omega; exact p2, fun e => ⟨p5 e, p6⟩⟩
    · refine ⟨by omega, ?_, by omega, by rw [if_pos (by omega)]; exact q1, fun e => (q3 e).1, ?_⟩
      · rcases h' with e | e
        · exact .inr (q2 e)
        · exact .inl e
      · rcases h' with e | e
        · rw [q2 e]; exact List.nodup_nil
        · exact (q3 e).2
  rw [e]
  by_cases h0 : d = 0
  · subst h0; simp
  · have : decide (dpL l + 1 ≤ d) = decide (dpL l ≤ d - 1) := decide_eq_decide.2 (by omega)
    rw [this, decide_eq_true h0]
    cases decide (dpL l ≤ d - 1) <;> cases decide (t = []) <;> simp
end Va
end Go.Proofs.YtggeiajbcehkjaaGreatDoor
/- What landed of values: may a value be, over what it asks of keys. -/
namespace Go.Proofs.YtggeiajbcehkjaaGreatDoor
open Go.RowKit
namespace Va
set_option maxRecDepth 100000

theorem cell_fst (w : World) (v : Value) (t : TypeId) : (w.alloc (.cells #[v] t)).cell? ⟨w.heap.size, 0, none⟩ = some v := by
  have e := heap_alloc_new w (.cells #[v] t)
  simp only [World.cell?, e]
  rfl
set_option maxHeartbeats 4000000 in
theorem mayF_any {x : V} {v : Value} {b r : Bool} {D E : Int} {q : Nat} (w : World) (hv : Vm w v x) (hq : w.cell? ⟨q, 0, none⟩ = some (.int .i64 D)) (hD : 1 ≤ D) (hD2 : D ≤ 256) (hE : D - 1 = E)
    (CM : ∀ w' : World, Below w.heap.size w w' → Calls Tryz.prog 47 #[v, .int .i64 E] w' fun e w'' => e = .returned (.bool r) ∧ Below w'.heap.size w' w'') :
    Calls Tryz.prog 70 #[.bool b, v, .pointer (some ⟨q, 0, none⟩)] w fun e w' => e = .returned (.bool (b && r)) ∧ Below w.heap.size w w' := by
  have hql := World.block_lt_of_cell? w _ hq
  obtain ⟨k, t, l, ks⟩ := x
  obtain ⟨A, B, c, d, rfl, _⟩ := hv.inv
  obtain ⟨T, hT⟩ : ∃ T, T = txt t := ⟨_, rfl⟩
  rw [← hT] at CM ⊢
  have HC := Lib.hid CM
  clear hv hT CM
  cases b with
  | false =>
    go_enter Tryz.func70, Tryz.ntmps70
    go_wp2_with fail
    go_ret
    exact ⟨by first | rfl | trivial, below_new ..⟩
  | true =>
    go_enter Tryz.func70, Tryz.ntmps70
    go_wp2_with fail
    refine (HC.out _ (below_new ..)).mono ?_
    rintro e w2 ⟨rfl, hb⟩
    have HB := Lib.hid (below_tr (below_new ..) hb)
    clear hb
    go_wp2_with fail
    go_ret
    exact ⟨ret_bool (by simp), HB.out⟩
set_option maxHeartbeats 4000000 in
theorem may_any (HK : KeysC) : ∀ (N : Nat) (x : V), wt x ≤ N → N ≤ 1000000 → ∀ (d : Nat) (w : World) (v : Value), d ≤ 256 → Vm w v x →
    Calls Tryz.prog 47 #[v, .int .i64 d] w fun e w' => e = .returned (.bool (mayD d x)) ∧ Below w.heap.size w w'
  | 0, x, hx, _, _, _, _, _, _ => by have := wt_pos x; omega
  | N + 1, .mk k t l ks, hx, hN, d, w, v, hd9, hv => by
    obtain ⟨R, hR⟩ : ∃ R, R = mayD d (.mk k t l ks) := ⟨_, rfl⟩
    rw [← hR]
    have HR := Lib.hid hR
    have CK := Lib.hid (fun (w' : World) (hb : Below w.heap.size w w') (h : k = 7 ∨ k = 8) => HK w' (hv.on hb) h (by omega))
    obtain ⟨A, B, c, dc, rfl, hk, hl, hc, hA, hd, hd2, hB, hKs, hV⟩ := hv.inv
    have IH := Lib.hid (fun (i : Nat) (x : V) (hi : l[i]? = some x) (d : Nat) (w : World) (v : Value) (h9 : d ≤ 256) (h : Vm w v x) => may_any HK N x (by have := wt_sub (k := k) (t := t) (ks := ks) hi; omega) (by omega) d w v h9 h)
    have hn0 : l.length ≤ 1000000 := by have := wtL_len l; rw [wt] at hx; omega
    have HV := Lib.hid hV
    have CT := Lib.hid (fun (T : ByteArray) (hT : T = txt t) (w' : World) (B C : Value) => mayText_any (k := k) B C w' hT)
    obtain ⟨T, hT⟩ : ∃ T, T = txt t := ⟨_, rfl⟩
    have HTT := Lib.hid hT
    obtain ⟨n, HN⟩ : ∃ n, Hid (n = l.length) := ⟨_, Lib.hid rfl⟩
    obtain ⟨m, HM⟩ : ∃ m, Hid (m = ks.length) := ⟨_, Lib.hid rfl⟩
    rw [← HN.out, ← HM.out, ← hT] at CK
    rw [← HN.out, ← HM.out, ← hT]
    obtain ⟨p, HP⟩ : ∃ p, Hid (p = ptd k) := ⟨_, Lib.hid rfl⟩
    have CP := Lib.hid (parted_is HP.out)
    obtain ⟨mt, HMT⟩ : ∃ mt, Hid (mt = mayT k t) := ⟨_, Lib.hid rfl⟩
    have CT2 := Lib.hid (fun (w' : World) (B C : Value) => by have := CT.out T hT w' B C; rw [← HMT.out] at this; exact this)
    have HLN := Lib.hid hn0
    clear hV hKs hv hx hN hn0 hR CT hT
    obtain ⟨W1, hW1⟩ : ∃ W, W = w.alloc (vO (.int .u8 k) (.string T) (.slice A n c) (.slice B m dc)) := ⟨_, rfl⟩
    obtain ⟨W2, hW2⟩ : ∃ W, W = W1.alloc (.cells #[.int .i64 d] 3) := ⟨_, rfl⟩
    have hb1 : Below w.heap.size w W1 := by rw [hW1]; exact below_new ..
    have hb2 : Below W1.heap.size W1 W2 := by rw [hW2]; exact below_new ..
    have HX := Lib.hid (show Bx W2 w.heap.size (.int .u8 k) (.string T) (.slice A n c) (.slice B m dc) from (show Bx W1 w.heap.size (.int .u8 k) (.string T) (.slice A n c) (.slice B m dc) from by rw [hW1]; exact Bx.new ..).on hb2)
    have hsz : w.heap.size + 1 = W1.heap.size := by rw [hW1]; show _ = (w.heap.push _).size; rw [Array.size_push]
    have HY := Lib.hid (show W2.cell? ⟨W1.heap.size, 0, none⟩ = some (.int .i64 d) from by rw [hW2]; exact cell_fst ..)
    have HB2 := Lib.hid (below_tr hb1 hb2)
    have HW1 := Lib.hid hW1
    have HW2 := Lib.hid hW2
    clear hW1 hW2 hb1 hb2
    go_enter Tryz.func47, Tryz.ntmps47
    go_upto_region 1 with fail
    rw [← HW1.out, ← HW2.out]
    have HZ2 := Lib.hid (show W1.heap.size < W2.heap.size from by rw [HW2.out]; show _ < (W1.heap.push _).size; rw [Array.size_push]; omega)
    obtain ⟨h2, hh2⟩ : ∃ h2, h2 = W1.heap.size := ⟨_, rfl⟩
    rw [← hh2] at HY HZ2 ⊢
    obtain ⟨h, hh⟩ : ∃ h, h = w.heap.size := ⟨_, rfl⟩
    rw [← hh] at HX ⊢
    clear HW1 HW2 hh hsz hh2
    obtain ⟨x0, x1, x2, x3⟩ : W2.cell? ⟨h, 0, none⟩ = some (.int .u8 k) ∧ W2.cell? ⟨h, 1, none⟩ = some (.string T) ∧ W2.cell? ⟨h, 2, none⟩ = some (.slice A n c) ∧ W2.cell? ⟨h, 3, none⟩ = some (.slice B m dc) := ⟨HX.out.c0, HX.out.c1, HX.out.c2, HX.out.c3⟩
    have y0 := HY.out
    go_wp2_with fail
    refine (CP.out _).mono ?_
    rintro e w3 ⟨rfl, rfl⟩
    cases p with
    | false =>
      have HL := Lib.hid (show R = (decide (n = 0) && decide (m = 0) && mt) from by rw [HR.out, mayD_leaf HP.out.symm, HN.out, HM.out, HMT.out])
      clear CK IH HV y0
      by_cases h0 : n = 0
      · subst h0
        by_cases h1 : m = 0
        · subst h1
          have HL2 := Lib.hid (show R = mt from by rw [HL.out]; simp)
          go_wp2_with fail
          refine (CT2.out _ _ _).mono ?_
          rintro e w4 ⟨rfl, hb⟩
          have HB4 := Lib.hid (below_tr HB2.out hb)
          clear hb
          go_wp2_with fail
          go_ret
          exact ⟨ret_bool HL2.out.symm, HB4.out⟩
        · have HL2 := Lib.hid (show R = false from by rw [HL.out]; simp [h1])
          have f1 : ((m : Int) == 0) = false := beq_eq_false_iff_ne.2 (by omega)
          go_wp2_with fail
          go_ret
          exact ⟨ret_bool HL2.out.symm, HB2.out⟩
      · have HL2 := Lib.hid (show R = false from by rw [HL.out]; simp [h0])
        have f1 : ((n : Int) == 0) = false := beq_eq_false_iff_ne.2 (by omega)
        go_wp2_with fail
        go_ret
        exact ⟨ret_bool HL2.out.symm, HB2.out⟩
    | true =>
      have HL := Lib.hid (show R = (decide (d ≠ 0) && decide (t = []) && decide ((k = 7 → ks = []) ∧ (k = 8 → ks.length = l.length ∧ ks.Nodup)) && (decide (dpL l ≤ d - 1) && plL l)) from by rw [HR.out, mayD_part HP.out.symm])
      have HK7 := Lib.hid (show k = 7 ∨ k = 8 from of_decide_eq_true HP.out.symm)
      by_cases h0 : d = 0
      · subst h0
        have HL2 := Lib.hid (show R = false from by rw [HL.out]; simp)
        go_wp2_with fail
        go_ret
        exact ⟨ret_bool HL2.out.symm, HB2.out⟩
      have g0 : ((d : Int) == 0) = false := beq_eq_false_iff_ne.2 (by omega)
      by_cases ht : t = []
      case neg =>
        have HL2 := Lib.hid (show R = false from by rw [HL.out]; simp [ht])
        obtain ⟨f1, f2, f3⟩ := nonempty HTT.out ht
        clear ht
        go_wp2_with fail
        go_ret
        exact ⟨ret_bool HL2.out.symm, HB2.out⟩
      obtain rfl : T = ⟨#[]⟩ := by rw [HTT.out, ht]; rfl
      obtain ⟨kb, HKB⟩ : ∃ kb, Hid (kb = decide ((k = 7 → ks = []) ∧ (k = 8 → m = n ∧ ks.Nodup))) := ⟨_, Lib.hid rfl⟩
      have CK2 := Lib.hid (by have := CK.out W2 HB2.out HK7.out; rw [← HKB.out] at this; exact this)
      have HL3 := Lib.hid (show R = (kb && (decide (dpL l ≤ d - 1) && plL l)) from by rw [HL.out, decide_eq_true h0, decide_eq_true ht, HKB.out, HN.out, HM.out]; simp)
      clear ht CK
      go_wp2_with fail
      refine CK2.out.mono ?_
      rintro e w4 ⟨rfl, hb⟩
      have HB4 := Lib.hid (below_tr HB2.out hb)
      have X := HX.out.on hb
      have z2 := X.c2
      have HQ4 := Lib.hid (cell_old hb HZ2.out HY.out)
      have HV4 := Lib.hid (HV.out.on (below_tr HB2.out hb))
      clear hb X x0 x1 x2 x3 y0
      cases kb with
      | false =>
        have HL2 := Lib.hid (show R = false from by rw [HL3.out]; rfl)
        go_wp2_with fail
        go_ret
        exact ⟨ret_bool HL2.out.symm, HB4.out⟩
      | true =>
        obtain ⟨E, HEE⟩ : ∃ E : Nat, Hid (d = E + 1) := ⟨d - 1, Lib.hid (by omega)⟩
        have CO := Lib.hid (overB_any (l := l) (A := A) (c := c) (b0 := true) (fun b x => b && mayD E x) (fun _ _ => True) h2 w4 HV4.out HLN.out trivial (fun _ _ _ _ _ => trivial) (fun i x v w' b hi _ hv hb =>
          mayF_any w' hv (cell_old hb (World.block_lt_of_cell? _ _ HQ4.out) HQ4.out) (E := (E : Int)) (by have := HEE.out; omega) (by omega) (by have := HEE.out; omega) (fun w'' hb2 => IH.out i x hi E w'' v (by have := HEE.out; omega) (hv.on hb2))))
        have HL2 := Lib.hid (show l.foldl (fun b x => b && mayD E x) true = R from by rw [mayD_list, HL3.out, show d - 1 = E from by have := HEE.out; omega])
        rw [HL2.out, ← HN.out] at CO
        clear IH
        go_wp2_with fail
        refine CO.out.mono ?_
        rintro e w5 ⟨rfl, hb⟩
        have HB5 := Lib.hid (below_tr HB4.out hb)
        clear hb
        go_wp2_with fail
        go_ret
        exact ⟨by first | rfl | trivial, HB5.out⟩
end Va
end Go.Proofs.YtggeiajbcehkjaaGreatDoor
