/- What landed: where a string ends. -/
import Derived.Test.YtggeiajbcehkjaaGreatDoorGab
import Derived.Test.YtggeiajbcehkjaaGreatDoorGas
import Derived.Test.YtggeiajbcehkjaaGreatDoorGat
import Derived.Laws.EntriesVeiled
namespace Go.Proofs.YtggeiajbcehkjaaGreatDoor
open Go.RowKit
namespace Jk

theorem strE_esc {l : List UInt8} {k : Nat} (hk : k < l.length) (h : bt l k = 92) : strE l k = match escE l k with | .ok m => strE l m | .bad m => .bad m := by
  rw [strE, dif_pos hk, if_neg (by rw [h]; decide), if_neg (by rw [h]; decide), if_neg (by rw [h]; simp), escE]
  by_cases h1 : k + 1 = l.length
  · rw [if_pos h1]
    have e : bt l (k + 1) = 0 := bt_far (by omega)
    rw [e, if_neg (by decide), if_neg (by decide)]
  · rw [if_neg h1]
    by_cases h2 : bt l (k + 1) = 117
    · rw [if_pos h2, if_neg (by rw [h2]; decide), if_pos h2]
      cases h4 l (k + 1) <;> rfl
    · rw [if_neg h2]
      by_cases h3 : esc (bt l (k + 1)) = true
      · rw [if_pos h3, if_pos h3]
      · rw [if_neg h3, if_neg h3, if_neg h2]
theorem escE_ok {l : List UInt8} {k m : Nat} (h : escE l k = .ok m) : k < m ∧ m ≤ l.length := by
  unfold escE at h
  split at h
  · rename_i g; have := esc_in g; injection h with h; omega
  · split at h
    · cases hq : h4 l (k + 1) with
      | some a => rw [hq] at h; cases h
      | none => rw [hq] at h; have := hx_in (h4_none hq).2.2.2; injection h with h; omega
    · cases h
section
variable {l : List UInt8} {B : Nat} {A : Option Addr}
set_option maxHeartbeats 4000000 in
theorem stringEnd_is (n c i : Nat) {x : Int} (w : World) (hF : Forms) (hn : n = l.length) (hA : Byt w B A l) (hm : n ≤ 1000000) (hx : x = i) (hi : i < l.length) :
    Calls Tryz.prog 135 #[.slice A n c, .int .i64 x] w fun e w' => e = .returned (srV (strE l (i + 1))) ∧ w = w' := by
  subst hx
  have hin : i < n := by omega
  have hw1 : wrap64 ((i : Int) + 1) = ((i + 1 : Nat) : Int) := by unfold wrap64; omega
  have HF := Lib.hid hF
  have Hn := Lib.hid hn
  have HA := Lib.hid hA
  obtain ⟨b, off, rfl, _, hc⟩ := hA.at_ hi
  have HC := Lib.hid hc
  clear hF hn hA hc hi
  go_enter Tryz.func135, Tryz.ntmps135
  go_wp2_with fail
  go_loop [4, 5] (fun s t => ∃ k : Nat, k ≤ n ∧ s = .int .i64 k ∧ (∃ q, t = .bool q) ∧ Hid (strE l (i + 1) = strE l k)) (fun s _ => n - (intOf s).toNat)
  case atStart => exact ⟨i + 1, by omega, rfl, ⟨_, rfl⟩, Lib.hid rfl⟩
  case round =>
    obtain ⟨k, hk, rfl, ⟨q, rfl⟩, HS⟩ := hrel
    have hw2 : wrap64 ((k : Int) + 1) = ((k + 1 : Nat) : Int) := by unfold wrap64; omega
    by_cases hlt : k < n
    · have kl : k < l.length := by rw [← Hn.out]; exact hlt
      have c1 := HC.out k kl
      have G := Lib.hid (show strE l k = _ by rw [strE, dif_pos kl])
      obtain ⟨d, hd⟩ : ∃ d, d = bt l k := ⟨_, rfl⟩
      have HD := Lib.hid hd
      rw [← hd] at c1
      by_cases h32 : d < 32
      · have R := Lib.hid (show strE l (i + 1) = .bad k by
          rw [HS.out, G.out, ← hd, if_neg (by omega), if_pos h32])
        have h32' : ¬ 32 ≤ d := by omega
        clear hd G HS kl h32
        go_wp2_with fail
        refine bodyPost_ret (v := .tuple #[.int .i64 k, .bool false]) (by simp [results, Tryz.results135, go_sem, *]) rfl ?_
        exact ⟨by rw [R.out]; rfl, rfl⟩
      · have h32' : 32 ≤ d := by omega
        by_cases h34 : d = 34
        · have R := Lib.hid (show strE l (i + 1) = .ok (k + 1) by rw [HS.out, G.out, ← hd, if_pos h34])
          subst h34
          clear hd G HS kl h32
          go_wp2_with fail
          refine bodyPost_ret (v := .tuple #[.int .i64 ((k + 1 : Nat) : Int), .bool true]) (by simp [results, Tryz.results135, go_sem, *]) rfl ?_
          exact ⟨by rw [R.out]; rfl, rfl⟩
        · have q34 : (d == 34) = false := by simpa using h34
          by_cases h92 : d = 92
          · have T : strE l k = match escE l k with | .ok m => strE l m | .bad m => .bad m := strE_esc kl (by rw [← hd]; exact h92)
            have C := Lib.hid (fun w hA => escapeEnd_is (A := some ⟨b, off, none⟩) (B := B) n c k (x := k) w HF.out Hn.out hA hm rfl (by omega))
            subst h92
            cases he : escE l k with
            | ok m =>
              rw [he] at T C
              have T := T
              simp only at T
              have hm2 := escE_ok he
              have hmn : m ≤ n := by rw [Hn.out]; exact hm2.2
              have hkm : k < m := hm2.1
              have R := Lib.hid (HS.out.trans T)
              simp only [srV] at C
              clear hd G HS kl T he h34 hm2 h32
              go_wp2_with fail
              refine (C.out _ HA.out).mono ?_
              rintro e w' ⟨rfl, rfl⟩
              go_wp2_with fail
              go_round
              case rel => exact ⟨m, hmn, rfl, ⟨_, rfl⟩, R⟩
              case measure => simp [intOf]; omega
            | bad m =>
              rw [he] at T C
              simp only at T
              have R := Lib.hid (HS.out.trans T)
              simp only [srV] at C
              clear hd G HS kl T he h34 h32
              go_wp2_with fail
              refine (C.out _ HA.out).mono ?_
              rintro e w' ⟨rfl, rfl⟩
              go_wp2_with fail
              refine bodyPost_ret (v := .tuple #[.int .i64 (m : Nat), .bool false]) (by simp [results, Tryz.results135, go_sem, *]) rfl ?_
              exact ⟨by rw [R.out]; rfl, rfl⟩
          · have q92 : (d == 92) = false := by simpa using h92
            have R := Lib.hid (show strE l (i + 1) = strE l (k + 1) by
              rw [HS.out, G.out, ← hd, if_neg h34, if_neg (by omega), if_pos h92])
            clear hd G HS kl h34 h92 h32
            go_wp2_with fail
            go_round
            case rel => exact ⟨k + 1, by omega, rfl, ⟨_, rfl⟩, R⟩
            case measure => simp [intOf]; omega
    · have R := Lib.hid (show strE l (i + 1) = .bad k by
        rw [HS.out, strE, dif_neg (by rw [← Hn.out]; exact hlt), show k = l.length by have := Hn.out; omega])
      clear HS
      go_wp2_with fail
      refine bodyPost_ret (v := .tuple #[.int .i64 k, .bool false]) (by simp [results, Tryz.results135, go_sem, *]) rfl ?_
      exact ⟨by rw [R.out]; rfl, rfl⟩
end
end Jk
end Go.Proofs.YtggeiajbcehkjaaGreatDoor
/- What landed: the next token. -/
namespace Go.Proofs.YtggeiajbcehkjaaGreatDoor
open Go.RowKit
namespace Jk

/-- A token of what landed; its answers' blocks. -/
abbrev ltV (k i j : Int) : Value := .agg #[.int .u8 k, .int .i64 i, .int .i64 j]
abbrev ltO (k i j : Int) : Obj := .cells #[.int .u8 k, .int .i64 i, .int .i64 j] 145
/-- The answers' blocks: a token's, a fault's. -/
structure RL (w wx : World) (k i j c a : Int) : Prop where
  below : Below w.heap.size w wx
  r : wx.heap[w.heap.size]? = some (ltO k i j)
  v : wx.heap[w.heap.size + 1]? = some (fvO c a)
section
variable {w wx wy : World} {k i j c a k' i' j' c' a' : Int}
theorem RL.start : RL w ((w.alloc (ltO k i j)).alloc (fvO c a)) k i j c a := by
  refine ⟨((Below.refl _ _).alloc (Nat.le_refl _) _).alloc (by simp) _, ?_, ?_⟩
  · show ((w.heap.push _).push _)[w.heap.size]? = _
    rw [Array.getElem?_push, if_neg (by simp), Array.getElem?_push, if_pos rfl]
  · show ((w.heap.push _).push _)[w.heap.size + 1]? = _
    rw [Array.getElem?_push, if_pos (by simp)]
theorem RL.on (H : RL w wx k i j c a) (hb : Below wx.heap.size wx wy) : RL w wy k i j c a :=
  ⟨below_tr H.below hb, by rw [hb.block _ (lt_blk H.r)]; exact H.r, by rw [hb.block _ (lt_blk H.v)]; exact H.v⟩
theorem RL.cells (H : RL w wx k i j c a) : (wx.cell? ⟨w.heap.size, 0, none⟩ = some (.int .u8 k) ∧ wx.cell? ⟨w.heap.size, 1, none⟩ = some (.int .i64 i) ∧ wx.cell? ⟨w.heap.size, 2, none⟩ = some (.int .i64 j) ∧ wx.cell? ⟨w.heap.size + 1, 0, none⟩ = some (.int .i64 c) ∧ wx.cell? ⟨w.heap.size + 1, 1, none⟩ = some (.int .i64 a)) ∧
    wx.frozen? ⟨w.heap.size, 0, none⟩ = false ∧ wx.frozen? ⟨w.heap.size, 1, none⟩ = false ∧ wx.frozen? ⟨w.heap.size, 2, none⟩ = false ∧ wx.frozen? ⟨w.heap.size + 1, 0, none⟩ = false ∧ wx.frozen? ⟨w.heap.size + 1, 1, none⟩ = false := by
  simp [World.cell?, World.frozen?, H.r, H.v]
theorem RL.set (H : RL w wx k i j c a) : RL w (((((wx.setCell ⟨w.heap.size, 0, none⟩ (.int .u8 k')).setCell ⟨w.heap.size, 1, none⟩ (.int .i64 i')).setCell ⟨w.heap.size, 2, none⟩ (.int .i64 j')).setCell ⟨w.heap.size + 1, 0, none⟩ (.int .i64 c')).setCell ⟨w.heap.size + 1, 1, none⟩ (.int .i64 a')) k' i' j' c' a' := by
  have h1 := heap_setCell_same wx w.heap.size 0 _ _ (.int .u8 k') H.r
  have h2 := heap_setCell_same _ w.heap.size 1 _ _ (.int .i64 i') h1
  have h3 := heap_setCell_same _ w.heap.size 2 _ _ (.int .i64 j') h2
  have oth : ∀ (W : World) (p q n : Nat) (o : Obj) (u : Value), p ≠ q → W.heap[p]? = some o → (W.setCell ⟨q, n, none⟩ u).heap[p]? = some o := fun W p q n o u hpq hW => by
    rw [heap_setCell_other W ⟨q, n, none⟩ p u (by simpa using hpq)]; exact hW
  have g0 := oth _ (w.heap.size + 1) w.heap.size 2 _ (.int .i64 j') (by omega) (oth _ (w.heap.size + 1) w.heap.size 1 _ (.int .i64 i') (by omega) (oth _ (w.heap.size + 1) w.heap.size 0 _ (.int .u8 k') (by omega) H.v))
  have g1 := heap_setCell_same _ (w.heap.size + 1) 0 _ _ (.int .i64 c') g0
  have g2 := heap_setCell_same _ (w.heap.size + 1) 1 _ _ (.int .i64 a') g1
  refine ⟨((((H.below.setCell (by simp) _).setCell (by simp) _).setCell (by simp) _).setCell (by simp) _).setCell (by simp) _, ?_, g2⟩
  exact oth _ _ _ _ _ _ (by omega) (oth _ _ _ _ _ _ (by omega) h3)
end
/-- What is answered of a place. -/
def lnA (i : Nat) : TR → Value
  | .tok k n => .tuple #[ltV k i ((i + n : Nat) : Int), fvV 0 0]
  | .bad n => .tuple #[ltV 0 0 0, fvV 3 ((i + n : Nat) : Int)]
/-- The five forms. -/
abbrev fmV (F : ByteArray) (f : Nat) : Value := .agg #[.string F, .func (.func f) #[] #[]]
abbrev fmO (F : ByteArray) (f : Nat) : Obj := .cells #[.string F, .func (.func f) #[] #[]] 166
abbrev fmsV : Value := .agg #[.string ⟨#[32, 9, 10, 13]⟩, .func (.func 131) #[] #[], .string ⟨#[123, 125, 91, 93, 44, 58]⟩, .func (.func 132) #[] #[], .string ⟨#[97, 98, 99, 100, 101, 102, 103, 104, 105, 106, 107, 108, 109, 110, 111, 112, 113, 114, 115, 116, 117, 118, 119, 120, 121, 122]⟩, .func (.func 133) #[] #[], .string ⟨#[45, 48, 49, 50, 51, 52, 53, 54, 55, 56, 57]⟩, .func (.func 134) #[] #[], .string ⟨#[34]⟩, .func (.func 135) #[] #[]]
theorem forms_is (w : World) : Calls Tryz.prog 117 #[] w fun e w' => e = .returned fmsV ∧ Below w.heap.size w w' := by
  go_enter Tryz.func117, Tryz.ntmps117
  go_wp2_with fail
  refine bodyPost_ret (v := fmsV) (by simp [results, Tryz.results117, go_sem, *]) rfl ?_
  exact ⟨rfl, (Below.refl _ _).alloc (Nat.le_refl _) _⟩
theorem form_0 (w : World) : (Instr.index 167 fmsV (.int .i64 0)).run Tryz.prog w = .ok (fmV ⟨#[32, 9, 10, 13]⟩ 131) w := by kernel_rfl
theorem form_1 (w : World) : (Instr.index 167 fmsV (.int .i64 1)).run Tryz.prog w = .ok (fmV ⟨#[123, 125, 91, 93, 44, 58]⟩ 132) w := by kernel_rfl
theorem form_2 (w : World) : (Instr.index 167 fmsV (.int .i64 2)).run Tryz.prog w = .ok (fmV ⟨#[97, 98, 99, 100, 101, 102, 103, 104, 105, 106, 107, 108, 109, 110, 111, 112, 113, 114, 115, 116, 117, 118, 119, 120, 121, 122]⟩ 133) w := by kernel_rfl
theorem form_3 (w : World) : (Instr.index 167 fmsV (.int .i64 3)).run Tryz.prog w = .ok (fmV ⟨#[45, 48, 49, 50, 51, 52, 53, 54, 55, 56, 57]⟩ 134) w := by kernel_rfl
theorem form_4 (w : World) : (Instr.index 167 fmsV (.int .i64 4)).run Tryz.prog w = .ok (fmV ⟨#[34]⟩ 135) w := by kernel_rfl
/-- Where a form of each kind ends. -/
def en (l : List UInt8) (i : Nat) : Nat → Nat × Bool
  | 0 => (i + rw spc (l.drop i), true)
  | 1 => (i + 1, true)
  | 2 => if words ((l.drop i).take (rw ltr (l.drop i))) = true then (i + rw ltr (l.drop i), true) else (i, false)
  | 3 => if dg (bt l (mnI l i)) = true then (exE l (frE l (intE l (mnI l i))), true) else (mnI l i, false)
  | _ => match strE l (i + 1) with | .ok n => (n, true) | .bad n => (n, false)
def enV (p : Nat × Bool) : Value := .tuple #[.int .i64 (p.1 : Nat), .bool p.2]
/-- What is told of a place at which a form of a kind begins. -/
def enA (i m : Nat) (p : Nat × Bool) : Value := if p.2 = true then .tuple #[ltV m i (p.1 : Nat), fvV 0 0] else .tuple #[ltV 0 0 0, fvV 3 (p.1 : Nat)]
section
variable {l : List UInt8} {i : Nat}
theorem nx_en0 (h : spc (bt l i) = true) : lnA i (nx (l.drop i)) = enA i 0 (en l i 0) := by
  rw [nx_space (by rw [bt_drop, Nat.add_zero]; exact h)]; rfl
theorem nx_en1 (h : mrk (bt l i) = true) : lnA i (nx (l.drop i)) = enA i 1 (en l i 1) := by
  rw [nx_mark (by rw [bt_drop, Nat.add_zero]; exact h)]; rfl
theorem nx_en2 (h : ltr (bt l i) = true) : lnA i (nx (l.drop i)) = enA i 2 (en l i 2) := by
  rw [nx_letter (by rw [bt_drop, Nat.add_zero]; exact h), en]
  split <;> rfl
theorem nx_en3 (h : (decide (bt l i = 45) || dg (bt l i)) = true) : lnA i (nx (l.drop i)) = enA i 3 (en l i 3) := by
  have e0 : bt (l.drop i) 0 = bt l i := by rw [bt_drop, Nat.add_zero]
  have em : i + mnE (l.drop i) = mnI l i := by unfold mnE mnI; rw [e0]; split <;> omega
  rw [Bool.or_eq_true, decide_eq_true_eq] at h
  rw [nx_digit (by rw [e0]; exact h), bt_drop, em, en]
  split
  · rw [lnA, nmE, exE_drop, frE_drop, intE_drop, em]; rfl
  · rw [lnA, em]; rfl
theorem nx_en4 (hi : i < l.length) (h : decide (bt l i = 34) = true) : lnA i (nx (l.drop i)) = enA i 4 (en l i 4) := by
  have e : en l i 4 = (match strE l (i + 1) with | .ok n => (n, true) | .bad n => (n, false)) := rfl
  rw [nx_quote (by rw [bt_drop, Nat.add_zero]; exact of_decide_eq_true h), e, ← (strE_drop (Nat.le_of_lt hi) _ 1 (Nat.le_refl _)).resolve_right (by omega)]
  cases strE (l.drop i) 1 <;> rfl
theorem nx_en5 (h0 : spc (bt l i) = false) (h1 : mrk (bt l i) = false) (h2 : ltr (bt l i) = false) (h3 : (decide (bt l i = 45) || dg (bt l i)) = false) (h4 : decide (bt l i = 34) = false) : lnA i (nx (l.drop i)) = .tuple #[ltV 0 0 0, fvV 3 (i : Nat)] := by
  have e0 : bt (l.drop i) 0 = bt l i := by rw [bt_drop, Nat.add_zero]
  rw [Bool.or_eq_false_iff] at h3
  rw [nx_other (by rw [e0, h0]) (by rw [e0, h1]) (by rw [e0, h2]) (by rw [e0]; exact of_decide_eq_false h3.1) (by rw [e0]; exact h3.2) (by rw [e0]; exact of_decide_eq_false h4)]; rfl
variable {B : Nat} {A : Option Addr}
def EndIs (l : List UInt8) (A : Option Addr) (n c i m f : Nat) : Prop := ∀ w B, Byt w B A l → Calls Tryz.prog f #[.slice A n c, .int .i64 (i : Nat)] w fun e w' => e = .returned (enV (en l i m)) ∧ w = w'
variable {n c : Nat} (hF : Forms) (hn : n = l.length) (hm : n ≤ 1000000) (hi : i < l.length)
include hn hm hi
theorem end0 (hF : Forms) : EndIs l A n c i 0 131 := fun w B hA => spaceEnd_is n c i w hF hn hA hm rfl (by omega) rfl
theorem end1 : EndIs l A n c i 1 132 := fun w B hA => markEnd_is _ w (by omega) (by omega)
theorem end2 (hF : Forms) (hnc : n ≤ c) (hc6 : c ≤ maxLen) : EndIs l A n c i 2 133 := fun w B hA => by
  have := wordEnd_is n c i w hF hn hnc hc6 hA hm rfl hi
  have e : wdv l i = enV (en l i 2) := by unfold wdv en; split <;> rfl
  rwa [e] at this
theorem end3 (hF : Forms) : EndIs l A n c i 3 134 := fun w B hA => by
  have := numberEnd_is n c i w hF hn hA hm rfl hi
  have e : nmV l i = enV (en l i 3) := by unfold nmV en; split <;> rfl
  rwa [e] at this
theorem end4 (hF : Forms) : EndIs l A n c i 4 135 := fun w B hA => by
  have := stringEnd_is n c i w hF hn hA hm rfl hi
  have e : srV (strE l (i + 1)) = enV (en l i 4) := by unfold en; cases strE l (i + 1) <;> rfl
  rwa [e] at this
end
end Jk
end Go.Proofs.YtggeiajbcehkjaaGreatDoor
/- What landed: the next token, walked. -/
namespace Go.Proofs.YtggeiajbcehkjaaGreatDoor
open Go.RowKit
namespace Jk
section
variable {l : List UInt8} {A : Option Addr}
set_option maxHeartbeats 16000000 in
set_option maxRecDepth 100000 in
theorem lnext_in (n c i : Nat) {B : Nat} {x : Int} (w : World) (hF : Forms) (hn : n = l.length) (hnc : n ≤ c) (hc6 : c ≤ maxLen) (hA : Byt w B A l) (hB : B ≤ w.heap.size) (hm : n ≤ 1000000) (hx : x = i) (hi : i < l.length) :
    Calls Tryz.prog 99 #[.slice A n c, .int .i64 x] w fun e w' => e = .returned (lnA i (nx (l.drop i))) ∧ Below w.heap.size w w' := by
  subst hx
  have HF := Lib.hid hF
  have Hn := Lib.hid hn
  have HI := Lib.hid hi
  have HA := Lib.hid hA
  have HB := Lib.hid hB
  have hi6 : i ≤ 1000000 := by omega
  have E0 := Lib.hid (end0 (A := A) (c := c) hn hm hi hF)
  have E1 := Lib.hid (end1 (A := A) (c := c) hn hm hi)
  have E2 := Lib.hid (end2 (A := A) hn hm hi hF hnc hc6)
  have E3 := Lib.hid (end3 (A := A) (c := c) hn hm hi hF)
  have E4 := Lib.hid (end4 (A := A) (c := c) hn hm hi hF)
  have F0 := Lib.hid (RL.start (w := w) (k := 0) (i := 0) (j := 0) (c := 0) (a := 0))
  obtain ⟨b0, H0⟩ : ∃ b, Hid (b = spc (bt l i)) := ⟨_, rfl⟩
  obtain ⟨b1, H1⟩ : ∃ b, Hid (b = mrk (bt l i)) := ⟨_, rfl⟩
  obtain ⟨b2, H2⟩ : ∃ b, Hid (b = ltr (bt l i)) := ⟨_, rfl⟩
  obtain ⟨b3, H3⟩ : ∃ b, Hid (b = (decide (bt l i = 45) || dg (bt l i))) := ⟨_, rfl⟩
  obtain ⟨b4, H4⟩ : ∃ b, Hid (b = decide (bt l i = 34)) := ⟨_, rfl⟩
  clear hF hn hA hB hi hc6 hnc
  go_enter Tryz.func99, Tryz.ntmps99
  go_wp2_with fail
  refine (forms_is _).mono ?_
  rintro e w1 ⟨rfl, hb1⟩
  have F1 := Lib.hid (F0.out.on hb1)
  clear hb1
  go_wp2_with fail
  go_loopw [6, 7, 8, 9, 15] (fun _ _ _ _ v wx => ∃ m : Nat, (m = 0 ∨ m = 1 ∨ m = 2 ∨ m = 3 ∨ m = 4 ∨ m = 5) ∧ v = .int .i64 m ∧ Hid (RL w wx 0 0 0 0 0) ∧ Hid ((0 < m → b0 = false) ∧ (1 < m → b1 = false) ∧ (2 < m → b2 = false) ∧ (3 < m → b3 = false) ∧ (4 < m → b4 = false))) (fun _ _ _ _ v _ => 5 - (intOf v).toNat)
  case atStart => exact ⟨0, .inl rfl, rfl, F1, Lib.hid ⟨fun h => absurd h (by omega), fun h => absurd h (by omega), fun h => absurd h (by omega), fun h => absurd h (by omega), fun h => absurd h (by omega)⟩⟩
  case round =>
    obtain ⟨m, hm5, rfl, FW, NO⟩ := hrel
    have sz := FW.out.below.size
    rcases hm5 with rfl | rfl | rfl | rfl | rfl | rfl
    · have hix := form_0 wr
      have FA := Lib.hid (FW.out.on (wy := wr.alloc (fmO ⟨#[32, 9, 10, 13]⟩ 131)) ((Below.refl _ _).alloc (Nat.le_refl _) _))
      have C := Lib.hid (stands_is n c i (x := i) (v := b0) (wr.alloc (fmO ⟨#[32, 9, 10, 13]⟩ 131)) HF.out.blanks Hn.out (HA.out.below ((FA.out.below).mono HB.out)) hm rfl H0.out)
      have bkey : b0 = false ∨ b0 = true := by cases b0 <;> simp
      rcases bkey with rfl | rfl
      · have NO2 : Hid ((0 < 1 → false = false) ∧ (1 < 1 → b1 = false) ∧ (2 < 1 → b2 = false) ∧ (3 < 1 → b3 = false) ∧ (4 < 1 → b4 = false)) := Lib.hid ⟨fun _ => rfl, fun h => absurd h (by omega), fun h => absurd h (by omega), fun h => absurd h (by omega), fun h => absurd h (by omega)⟩
        go_wp2_with fail
        refine C.out.mono ?_
        rintro e w' ⟨rfl, rfl⟩
        go_wp2_with fail
        go_roundw
        case rel => exact ⟨1, by simp, by go_num, FA, NO2⟩
        case measure => simp [intOf]
      · have R := Lib.hid (nx_en0 H0.out.symm)
        obtain ⟨p, HP⟩ : ∃ p, Hid (p = en l i 0) := ⟨_, rfl⟩
        have EC := Lib.hid (E0.out (wr.alloc (fmO ⟨#[32, 9, 10, 13]⟩ 131)) B (HA.out.below ((FA.out.below).mono HB.out)))
        rw [← HP.out] at EC R
        obtain ⟨q, ok⟩ := p
        obtain ⟨⟨c0, c1, c2, c3, c4⟩, f0, f1, f2, f3, f4⟩ := FA.out.cells
        have okey : ok = false ∨ ok = true := by cases ok <;> simp
        rcases okey with rfl | rfl
        · go_wp2_with fail
          refine C.out.mono ?_
          rintro e w' ⟨rfl, rfl⟩
          go_wp2_with fail
          refine EC.out.mono ?_
          rintro e w' ⟨rfl, rfl⟩
          simp only [enV]
          go_wp2_with fail
          refine bodyPost_ret (v := .tuple #[ltV 0 0 0, fvV 3 q]) (by simp [results, Tryz.results99, go_sem, *]) rfl ?_
          exact ⟨by rw [R.out]; rfl, FA.out.set.below⟩
        · go_wp2_with fail
          refine C.out.mono ?_
          rintro e w' ⟨rfl, rfl⟩
          go_wp2_with fail
          refine EC.out.mono ?_
          rintro e w' ⟨rfl, rfl⟩
          simp only [enV]
          go_wp2_with fail
          refine bodyPost_ret (v := .tuple #[ltV 0 i q, fvV 0 0]) (by simp [results, Tryz.results99, go_sem, *]) rfl ?_
          exact ⟨by rw [R.out]; rfl, FA.out.set.below⟩
    · have hix := form_1 wr
      have FA := Lib.hid (FW.out.on (wy := wr.alloc (fmO ⟨#[123, 125, 91, 93, 44, 58]⟩ 132)) ((Below.refl _ _).alloc (Nat.le_refl _) _))
      have C := Lib.hid (stands_is n c i (x := i) (v := b1) (wr.alloc (fmO ⟨#[123, 125, 91, 93, 44, 58]⟩ 132)) HF.out.marks Hn.out (HA.out.below ((FA.out.below).mono HB.out)) hm rfl H1.out)
      have bkey : b1 = false ∨ b1 = true := by cases b1 <;> simp
      rcases bkey with rfl | rfl
      · have NO2 : Hid ((0 < 2 → b0 = false) ∧ (1 < 2 → false = false) ∧ (2 < 2 → b2 = false) ∧ (3 < 2 → b3 = false) ∧ (4 < 2 → b4 = false)) := Lib.hid ⟨fun _ => NO.out.1 (by omega), fun _ => rfl, fun h => absurd h (by omega), fun h => absurd h (by omega), fun h => absurd h (by omega)⟩
        go_wp2_with fail
        refine C.out.mono ?_
        rintro e w' ⟨rfl, rfl⟩
        go_wp2_with fail
        go_roundw
        case rel => exact ⟨2, by simp, by go_num, FA, NO2⟩
        case measure => simp [intOf]
      · have R := Lib.hid (nx_en1 H1.out.symm)
        obtain ⟨p, HP⟩ : ∃ p, Hid (p = en l i 1) := ⟨_, rfl⟩
        have EC := Lib.hid (E1.out (wr.alloc (fmO ⟨#[123, 125, 91, 93, 44, 58]⟩ 132)) B (HA.out.below ((FA.out.below).mono HB.out)))
        rw [← HP.out] at EC R
        obtain ⟨q, ok⟩ := p
        obtain ⟨⟨c0, c1, c2, c3, c4⟩, f0, f1, f2, f3, f4⟩ := FA.out.cells
        have okey : ok = false ∨ ok = true := by cases ok <;> simp
        rcases okey with rfl | rfl
        · go_wp2_with fail
          refine C.out.mono ?_
          rintro e w' ⟨rfl, rfl⟩
          go_wp2_with fail
          refine EC.out.mono ?_
          rintro e w' ⟨rfl, rfl⟩
          simp only [enV]
          go_wp2_with fail
          refine bodyPost_ret (v := .tuple #[ltV 0 0 0, fvV 3 q]) (by simp [results, Tryz.results99, go_sem, *]) rfl ?_
          exact ⟨by rw [R.out]; rfl, FA.out.set.below⟩
        · go_wp2_with fail
          refine C.out.mono ?_
          rintro e w' ⟨rfl, rfl⟩
          go_wp2_with fail
          refine EC.out.mono ?_
          rintro e w' ⟨rfl, rfl⟩
          simp only [enV]
          go_wp2_with fail
          refine bodyPost_ret (v := .tuple #[ltV 1 i q, fvV 0 0]) (by simp [results, Tryz.results99, go_sem, *]) rfl ?_
          exact ⟨by rw [R.out]; rfl, FA.out.set.below⟩
    · have hix := form_2 wr
      have FA := Lib.hid (FW.out.on (wy := wr.alloc (fmO ⟨#[97, 98, 99, 100, 101, 102, 103, 104, 105, 106, 107, 108, 109, 110, 111, 112, 113, 114, 115, 116, 117, 118, 119, 120, 121, 122]⟩ 133)) ((Below.refl _ _).alloc (Nat.le_refl _) _))
      have C := Lib.hid (stands_is n c i (x := i) (v := b2) (wr.alloc (fmO ⟨#[97, 98, 99, 100, 101, 102, 103, 104, 105, 106, 107, 108, 109, 110, 111, 112, 113, 114, 115, 116, 117, 118, 119, 120, 121, 122]⟩ 133)) HF.out.letters Hn.out (HA.out.below ((FA.out.below).mono HB.out)) hm rfl H2.out)
      have bkey : b2 = false ∨ b2 = true := by cases b2 <;> simp
      rcases bkey with rfl | rfl
      · have NO2 : Hid ((0 < 3 → b0 = false) ∧ (1 < 3 → b1 = false) ∧ (2 < 3 → false = false) ∧ (3 < 3 → b3 = false) ∧ (4 < 3 → b4 = false)) := Lib.hid ⟨fun _ => NO.out.1 (by omega), fun _ => NO.out.2.1 (by omega), fun _ => rfl, fun h => absurd h (by omega), fun h => absurd h (by omega)⟩
        go_wp2_with fail
        refine C.out.mono ?_
        rintro e w' ⟨rfl, rfl⟩
        go_wp2_with fail
        go_roundw
        case rel => exact ⟨3, by simp, by go_num, FA, NO2⟩
        case measure => simp [intOf]
      · have R := Lib.hid (nx_en2 H2.out.symm)
        obtain ⟨p, HP⟩ : ∃ p, Hid (p = en l i 2) := ⟨_, rfl⟩
        have EC := Lib.hid (E2.out (wr.alloc (fmO ⟨#[97, 98, 99, 100, 101, 102, 103, 104, 105, 106, 107, 108, 109, 110, 111, 112, 113, 114, 115, 116, 117, 118, 119, 120, 121, 122]⟩ 133)) B (HA.out.below ((FA.out.below).mono HB.out)))
        rw [← HP.out] at EC R
        obtain ⟨q, ok⟩ := p
        obtain ⟨⟨c0, c1, c2, c3, c4⟩, f0, f1, f2, f3, f4⟩ := FA.out.cells
        have okey : ok = false ∨ ok = true := by cases ok <;> simp
        rcases okey with rfl | rfl
        · go_wp2_with fail
          refine C.out.mono ?_
          rintro e w' ⟨rfl, rfl⟩
          go_wp2_with fail
          refine EC.out.mono ?_
          rintro e w' ⟨rfl, rfl⟩
          simp only [enV]
          go_wp2_with fail
          refine bodyPost_ret (v := .tuple #[ltV 0 0 0, fvV 3 q]) (by simp [results, Tryz.results99, go_sem, *]) rfl ?_
          exact ⟨by rw [R.out]; rfl, FA.out.set.below⟩
        · go_wp2_with fail
          refine C.out.mono ?_
          rintro e w' ⟨rfl, rfl⟩
          go_wp2_with fail
          refine EC.out.mono ?_
          rintro e w' ⟨rfl, rfl⟩
          simp only [enV]
          go_wp2_with fail
          refine bodyPost_ret (v := .tuple #[ltV 2 i q, fvV 0 0]) (by simp [results, Tryz.results99, go_sem, *]) rfl ?_
          exact ⟨by rw [R.out]; rfl, FA.out.set.below⟩
    · have hix := form_3 wr
      have FA := Lib.hid (FW.out.on (wy := wr.alloc (fmO ⟨#[45, 48, 49, 50, 51, 52, 53, 54, 55, 56, 57]⟩ 134)) ((Below.refl _ _).alloc (Nat.le_refl _) _))
      have C := Lib.hid (stands_is n c i (x := i) (v := b3) (wr.alloc (fmO ⟨#[45, 48, 49, 50, 51, 52, 53, 54, 55, 56, 57]⟩ 134)) HF.out.nums Hn.out (HA.out.below ((FA.out.below).mono HB.out)) hm rfl H3.out)
      have bkey : b3 = false ∨ b3 = true := by cases b3 <;> simp
      rcases bkey with rfl | rfl
      · have NO2 : Hid ((0 < 4 → b0 = false) ∧ (1 < 4 → b1 = false) ∧ (2 < 4 → b2 = false) ∧ (3 < 4 → false = false) ∧ (4 < 4 → b4 = false)) := Lib.hid ⟨fun _ => NO.out.1 (by omega), fun _ => NO.out.2.1 (by omega), fun _ => NO.out.2.2.1 (by omega), fun _ => rfl, fun h => absurd h (by omega)⟩
        go_wp2_with fail
        refine C.out.mono ?_
        rintro e w' ⟨rfl, rfl⟩
        go_wp2_with fail
        go_roundw
        case rel => exact ⟨4, by simp, by go_num, FA, NO2⟩
        case measure => simp [intOf]
      · have R := Lib.hid (nx_en3 H3.out.symm)
        obtain ⟨p, HP⟩ : ∃ p, Hid (p = en l i 3) := ⟨_, rfl⟩
        have EC := Lib.hid (E3.out (wr.alloc (fmO ⟨#[45, 48, 49, 50, 51, 52, 53, 54, 55, 56, 57]⟩ 134)) B (HA.out.below ((FA.out.below).mono HB.out)))
        rw [← HP.out] at EC R
        obtain ⟨q, ok⟩ := p
        obtain ⟨⟨c0, c1, c2, c3, c4⟩, f0, f1, f2, f3, f4⟩ := FA.out.cells
        have okey : ok = false ∨ ok = true := by cases ok <;> simp
        rcases okey with rfl | rfl
        · go_wp2_with fail
          refine C.out.mono ?_
          rintro e w' ⟨rfl, rfl⟩
          go_wp2_with fail
          refine EC.out.mono ?_
          rintro e w' ⟨rfl, rfl⟩
          simp only [enV]
          go_wp2_with fail
          refine bodyPost_ret (v := .tuple #[ltV 0 0 0, fvV 3 q]) (by simp [results, Tryz.results99, go_sem, *]) rfl ?_
          exact ⟨by rw [R.out]; rfl, FA.out.set.below⟩
        · go_wp2_with fail
          refine C.out.mono ?_
          rintro e w' ⟨rfl, rfl⟩
          go_wp2_with fail
          refine EC.out.mono ?_
          rintro e w' ⟨rfl, rfl⟩
          simp only [enV]
          go_wp2_with fail
          refine bodyPost_ret (v := .tuple #[ltV 3 i q, fvV 0 0]) (by simp [results, Tryz.results99, go_sem, *]) rfl ?_
          exact ⟨by rw [R.out]; rfl, FA.out.set.below⟩
    · have hix := form_4 wr
      have FA := Lib.hid (FW.out.on (wy := wr.alloc (fmO ⟨#[34]⟩ 135)) ((Below.refl _ _).alloc (Nat.le_refl _) _))
      have C := Lib.hid (stands_is n c i (x := i) (v := b4) (wr.alloc (fmO ⟨#[34]⟩ 135)) HF.out.quote Hn.out (HA.out.below ((FA.out.below).mono HB.out)) hm rfl H4.out)
      have bkey : b4 = false ∨ b4 = true := by cases b4 <;> simp
      rcases bkey with rfl | rfl
      · have NO2 : Hid ((0 < 5 → b0 = false) ∧ (1 < 5 → b1 = false) ∧ (2 < 5 → b2 = false) ∧ (3 < 5 → b3 = false) ∧ (4 < 5 → false = false)) := Lib.hid ⟨fun _ => NO.out.1 (by omega), fun _ => NO.out.2.1 (by omega), fun _ => NO.out.2.2.1 (by omega), fun _ => NO.out.2.2.2.1 (by omega), fun _ => rfl⟩
        go_wp2_with fail
        refine C.out.mono ?_
        rintro e w' ⟨rfl, rfl⟩
        go_wp2_with fail
        go_roundw
        case rel => exact ⟨5, by simp, by go_num, FA, NO2⟩
        case measure => simp [intOf]
      · have R := Lib.hid (nx_en4 HI.out H4.out.symm)
        obtain ⟨p, HP⟩ : ∃ p, Hid (p = en l i 4) := ⟨_, rfl⟩
        have EC := Lib.hid (E4.out (wr.alloc (fmO ⟨#[34]⟩ 135)) B (HA.out.below ((FA.out.below).mono HB.out)))
        rw [← HP.out] at EC R
        obtain ⟨q, ok⟩ := p
        obtain ⟨⟨c0, c1, c2, c3, c4⟩, f0, f1, f2, f3, f4⟩ := FA.out.cells
        have okey : ok = false ∨ ok = true := by cases ok <;> simp
        rcases okey with rfl | rfl
        · go_wp2_with fail
          refine C.out.mono ?_
          rintro e w' ⟨rfl, rfl⟩
          go_wp2_with fail
          refine EC.out.mono ?_
          rintro e w' ⟨rfl, rfl⟩
          simp only [enV]
          go_wp2_with fail
          refine bodyPost_ret (v := .tuple #[ltV 0 0 0, fvV 3 q]) (by simp [results, Tryz.results99, go_sem, *]) rfl ?_
          exact ⟨by rw [R.out]; rfl, FA.out.set.below⟩
        · go_wp2_with fail
          refine C.out.mono ?_
          rintro e w' ⟨rfl, rfl⟩
          go_wp2_with fail
          refine EC.out.mono ?_
          rintro e w' ⟨rfl, rfl⟩
          simp only [enV]
          go_wp2_with fail
          refine bodyPost_ret (v := .tuple #[ltV 4 i q, fvV 0 0]) (by simp [results, Tryz.results99, go_sem, *]) rfl ?_
          exact ⟨by rw [R.out]; rfl, FA.out.set.below⟩
    · have R := Lib.hid (nx_en5 (H0.out.symm.trans (NO.out.1 (by omega))) (H1.out.symm.trans (NO.out.2.1 (by omega))) (H2.out.symm.trans (NO.out.2.2.1 (by omega))) (H3.out.symm.trans (NO.out.2.2.2.1 (by omega))) (H4.out.symm.trans (NO.out.2.2.2.2 (by omega))))
      obtain ⟨⟨c0, c1, c2, c3, c4⟩, f0, f1, f2, f3, f4⟩ := FW.out.cells
      go_wp2_with fail
      refine bodyPost_ret (v := .tuple #[ltV 0 0 0, fvV 3 i]) (by simp [results, Tryz.results99, go_sem, *]) rfl ?_
      exact ⟨by rw [R.out], FW.out.set.below⟩
end
end Jk
end Go.Proofs.YtggeiajbcehkjaaGreatDoor
