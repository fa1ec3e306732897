/- The law of radixes: what it reads, in a row. -/
import Derived.Test.YtonfaphllpjmpaaDoorInQ
import Derived.Test.YtonfaphllpjmpaaDoorInW
namespace Go.Proofs.YtonfaphllpjmpaaDoor
open Go.RowKit

namespace In
theorem dN_short {b : Nat} (hb : 2 ≤ b) : ∀ (k n : Nat), n < 2 ^ (k + 1) → (dN b n).length ≤ k + 1
  | 0, n, h => by rw [dN_lt (by omega)]; simp
  | k + 1, n, h => by
    by_cases hn : b ≤ n
    · rw [dN_ge hb hn]
      have : n / b < 2 ^ (k + 1) := by
        rw [Nat.div_lt_iff_lt_mul (by omega)]
        have h2 : 2 ^ (k + 1 + 1) = 2 ^ (k + 1) * 2 := Nat.pow_succ ..
        have h3 : 2 ^ (k + 1) * 2 ≤ 2 ^ (k + 1) * b := Nat.mul_le_mul_left _ hb
        omega
      have := dN_short hb k _ this
      simp; omega
    · rw [dN_lt (by omega)]; simp
theorem dN_64 {b n : Nat} (hb : 2 ≤ b) (h : n < 18446744073709551616) : (dN b n).length ≤ 64 := dN_short hb 63 n (by simpa using h)
theorem mkL_len (f : Nat → Bool) : ∀ (l : List UInt8) (i : Nat), (mkL f i l).length ≤ 2 * l.length
  | [], i => by simp [mkL]
  | [c], i => by simp [mkL]
  | c :: d :: r, i => by
    have := mkL_len f (d :: r) (i + 1)
    rw [mkL]
    split
    · simp at this ⊢; omega
    · simp at this ⊢; omega
/-- What the law of radixes reads. -/
def rx (v : Int) (f : Nat → Bool) (i : Nat) : List UInt8 :=
  if i = 0 then nfI v else if i = 1 then sg v ++ mkL f 0 (dN 10 v.natAbs) else if i = 2 then 43 :: nfI v else if i = 3 then 48 :: 120 :: mkL f 0 (dN 16 v.natAbs)
  else if i = 4 then 48 :: 120 :: 48 :: 95 :: 48 :: (dN 16 v.natAbs).map up else if i = 5 then 48 :: 111 :: mkL f 0 (dN 8 v.natAbs) else 48 :: 98 :: mkL f 0 (dN 2 v.natAbs)
structure RX (v : Int) (l : List UInt8) : Prop where
  ok : rd l = .ok (nfI v)
  len : l.length ≤ 200
  one : rd (l ++ [95]) = .syn
  two : rd (l ++ [95, 95, 49]) = .syn
  blank : rd (l ++ [32]) = .syn
  dot : rd (l ++ [46]) = .syn
  under : rd (95 :: l) = .syn
theorem RX.of {v : Int} {l : List UInt8} (h : rd l = .ok (nfI v)) (hl : l.length ≤ 200) : RX v l := by
  have hn : l ≠ [] := by rintro rfl; revert h; rw [show rd [] = R.syn by decide +kernel]; intro h; cases h
  obtain ⟨a, b, c, d⟩ := rd_tail hn
  exact ⟨h, hl, a, b, c, d, rd_under l⟩
theorem sg_len (v : Int) : (sg v).length ≤ 1 := by unfold sg; split <;> simp
theorem rx_all {v : Int} (f : Nat → Bool) (h : fits v) (N : Nat) (hN : N = 2 ∨ N = 7 ∧ ¬ v < 0) (i : Nat) (hi : i < N) : RX v (rx v f i) := by
  have hb : v.natAbs < 18446744073709551616 := by have := h.1; have := h.2; omega
  have L2 := dN_64 (b := 2) (by omega) hb
  have L8 := dN_64 (b := 8) (by omega) hb
  have L10 := dN_64 (b := 10) (by omega) hb
  have L16 := dN_64 (b := 16) (by omega) hb
  have M2 := mkL_len f (dN 2 v.natAbs) 0
  have M8 := mkL_len f (dN 8 v.natAbs) 0
  have M10 := mkL_len f (dN 10 v.natAbs) 0
  have M16 := mkL_len f (dN 16 v.natAbs) 0
  have hs := sg_len v
  have hnf : (nfI v).length ≤ 65 := by rw [nfI_sg]; simp; omega
  by_cases e0 : i = 0
  · subst e0; exact .of (rd_nfI h) (by show (nfI v).length ≤ 200; omega)
  by_cases e1 : i = 1
  · subst e1; exact .of (rd_marked f h) (by show (sg v ++ mkL f 0 (dN 10 v.natAbs)).length ≤ 200; simp; omega)
  have h0 : ¬ v < 0 := by rcases hN with rfl | ⟨_, h0⟩ <;> omega
  by_cases e2 : i = 2
  · subst e2; exact .of (rd_pv h h0) (by show (43 :: nfI v).length ≤ 200; simp; omega)
  by_cases e3 : i = 3
  · subst e3; exact .of (rd_mx f h h0) (by show (48 :: 120 :: mkL f 0 (dN 16 v.natAbs)).length ≤ 200; simp; omega)
  by_cases e4 : i = 4
  · subst e4; exact .of (rd_ux h h0) (by show (48 :: 120 :: 48 :: 95 :: 48 :: (dN 16 v.natAbs).map up).length ≤ 200; simp; omega)
  by_cases e5 : i = 5
  · subst e5; exact .of (rd_mo f h h0) (by show (48 :: 111 :: mkL f 0 (dN 8 v.natAbs)).length ≤ 200; simp; omega)
  have e : rx v f i = 48 :: 98 :: mkL f 0 (dN 2 v.natAbs) := by rw [rx, if_neg e0, if_neg e1, if_neg e2, if_neg e3, if_neg e4, if_neg e5]
  rw [e]
  exact .of (rd_mb f h h0) (by simp; omega)
end In
/-- A row of texts, and what lies beside it. -/
structure LS (w : World) (F : Nat → List UInt8) (g N : Nat) (wr : World) : Prop where
  below : Below w.heap.size w wr
  more : g < wr.heap.size
  cells : ∀ i, i < N → wr.cell? ⟨g, i, none⟩ = some (.string (txt (F i)))
theorem LS.on {w : World} {F : Nat → List UInt8} {g N : Nat} {wr w' : World} (h : LS w F g N wr) (hb : Below wr.heap.size wr w') : LS w F g N w' :=
  ⟨h.below.trans (hb.mono h.below.size), Nat.lt_of_lt_of_le h.more hb.size, fun i hi => (hb.cell (by exact h.more)).trans (h.cells i hi)⟩
theorem cells_new (w : World) (t : TypeId) (l : List Value) : ∀ j u, l[j]? = some u → (w.alloc (.cells l.toArray t)).cell? ((⟨w.heap.size, 0, none⟩ : Addr).add j) = some u := by
  intro j u h
  rw [addAt, World.cell?_alloc_at _ _ _ _ rfl]
  simpa using h
theorem fintv_any (b k : Nat) (h : Rx b k) {v : Int} (hv : In.fits v) (h0 : ¬ v < 0) (bI : Int) (hbI : bI = b) (w : World) (D : Deb w) :
    Calls Tryd.prog 13 #[.int .i64 v, .int .i64 bI] w fun e w' => e = .returned (.string (txt (In.dN b v.natAbs))) ∧ Below w.heap.size w w' := by
  obtain ⟨n, rfl⟩ : ∃ n : Nat, v = n := ⟨v.toNat, by omega⟩
  have := hv.2
  exact fint_any b k h n (by omega) bI hbI w D
end Go.Proofs.YtonfaphllpjmpaaDoor
