/- What the texts on ints take from elsewhere: a digit, a text compared, a radix told ahead. -/
import Derived.Test.YtbeefjhcbphiaaaGreatDoorGf
import Derived.Test.YtbeefjhcbphiaaaGreatDoorHb
import Derived.LoopTactic
import Derived.Outline
import Derived.BigQuiet
import Derived.Deep.QuietTactic
import Derived.Deep.DeepCutAuto
import Derived.Deep.CutBlock
import Derived.Lib.Strings
import Derived.IntWalk
namespace Go.Proofs.YtbeefjhcbphiaaaGreatDoor.II
open Go.RowKit

namespace In
theorem ch_ten {d : Nat} (h : d < 10) : ch d = UInt8.ofNat (48 + d) := by rw [ch, if_pos h]
end In
theorem sub8 {c k : Int} (h : k ≤ c) (h0 : 0 ≤ k) (h1 : c ≤ 255) : IntKind.u8.wrap (c - k) = c - k := by rw [IntKind.wrap_u8']; omega
/-- A digit's value; -1: none. -/
def gJ (c : Int) : Int := if 48 ≤ c ∧ c ≤ 57 then c - 48 else if 97 ≤ c ∧ c ≤ 102 then c - 87 else if 65 ≤ c ∧ c ≤ 70 then c - 55 else -1
/-- .. of a base. -/
def dJ (c b : Int) : Int := if b ≤ gJ c then -1 else gJ c
theorem dJ_dg (c : UInt8) {b : Nat} (h : b ≤ 16) : dJ (c.toNat : Int) b = if In.dg c < b then (In.dg c : Int) else -1 := by
  unfold dJ gJ In.dg
  by_cases a : 48 ≤ c.toNat ∧ c.toNat ≤ 57
  · rw [if_pos (show 48 ≤ (c.toNat : Int) ∧ (c.toNat : Int) ≤ 57 by omega), if_pos a]
    split <;> split <;> omega
  rw [if_neg (show ¬ (48 ≤ (c.toNat : Int) ∧ (c.toNat : Int) ≤ 57) by omega), if_neg a]
  by_cases a : 97 ≤ c.toNat ∧ c.toNat ≤ 102
  · rw [if_pos (show 97 ≤ (c.toNat : Int) ∧ (c.toNat : Int) ≤ 102 by omega), if_pos a]
    split <;> split <;> omega
  rw [if_neg (show ¬ (97 ≤ (c.toNat : Int) ∧ (c.toNat : Int) ≤ 102) by omega), if_neg a]
  by_cases a : 65 ≤ c.toNat ∧ c.toNat ≤ 70
  · rw [if_pos (show 65 ≤ (c.toNat : Int) ∧ (c.toNat : Int) ≤ 70 by omega), if_pos a]
    split <;> split <;> omega
  rw [if_neg (show ¬ (65 ≤ (c.toNat : Int) ∧ (c.toNat : Int) ≤ 70) by omega), if_neg a]
  split <;> split <;> omega
theorem toList_txt (l : List UInt8) : (txt l).toList = l := by
  rw [Lib.toList_data]; rfl
theorem iseq_txt {s t : ByteArray} {l m : List UInt8} (hs : s = txt l) (ht : t = txt m) : (s.toList == t.toList) = decide (l = m) := by
  rw [hs, ht, toList_txt, toList_txt]
  by_cases h : l = m
  · simp [h]
  · simp [h]
theorem iseq_l {s : ByteArray} {l : List UInt8} (hs : s = txt l) (m : List UInt8) : (s.toList == m) = decide (l = m) := by
  rw [hs, toList_txt]
  by_cases h : l = m
  · simp [h]
  · simp [h]
/-- What a reading answers. -/
def irv : In.R → Value
  | .ok t => .tuple #[.string (txt t), .int .i64 0]
  | .syn => .tuple #[.string ⟨#[]⟩, .int .i64 3]
  | .big => .tuple #[.string ⟨#[]⟩, .int .i64 8]
theorem drop_one {l : List UInt8} {i : Nat} (h : i < l.length) : ∃ c, l.drop i = c :: l.drop (i + 1) ∧ bt l i = (c.toNat : Int) :=
  ⟨l[i], List.drop_eq_getElem_cons h, by simp [bt, h]⟩
theorem by_num {c : UInt8} {y : Int} {k : Nat} (h : y = (c.toNat : Int)) (hk : k < 256) (hy : y = k) : c = UInt8.ofNat k := UInt8.toNat_inj.1 (by rw [UInt8.toNat_ofNat_of_lt' (by simp [UInt8.size]; omega)]; omega)
/-- Is a radix told ahead? -/
def rdx (l : List UInt8) : Bool := decide (2 ≤ l.length ∧ bt l 0 = 48 ∧ (bt l 1 = 120 ∨ bt l 1 = 111 ∨ bt l 1 = 98))
theorem pre_rdx {l : List UInt8} (h : rdx l = true) : In.pre l = ((if bt l 1 = 120 then 16 else if bt l 1 = 111 then 8 else 2), false, l.drop 2) := by
  have h := of_decide_eq_true h
  obtain ⟨h1, h2, h3⟩ := h
  match l, h1, h2, h3 with
  | a :: b :: r, _, h2, h3 =>
    have ha : a = 48 := by_num (k := 48) (y := bt (a :: b :: r) 0) rfl (by omega) h2
    subst ha
    have e1 : bt (48 :: b :: r) 1 = (b.toNat : Int) := rfl
    rw [e1] at h3 ⊢
    rcases h3 with h3 | h3 | h3
    · have hb : b = 120 := by_num (k := 120) (y := (b.toNat : Int)) rfl (by omega) h3
      subst hb; rfl
    · have hb : b = 111 := by_num (k := 111) (y := (b.toNat : Int)) rfl (by omega) h3
      subst hb; rfl
    · have hb : b = 98 := by_num (k := 98) (y := (b.toNat : Int)) rfl (by omega) h3
      subst hb; rfl
theorem pre_sgn {l : List UInt8} (h : rdx l = false) : In.pre l = if 0 < l.length ∧ bt l 0 = 43 then (10, false, l.drop 1) else if 0 < l.length ∧ bt l 0 = 45 then (10, true, l.drop 1) else (10, false, l) := by
  have h := of_decide_eq_false h
  match l with
  | [] => rfl
  | [a] =>
    have e : bt [a] 0 = (a.toNat : Int) := rfl
    rw [e]
    by_cases h1 : a = 43
    · subst h1; rfl
    · by_cases h2 : a = 45
      · subst h2; rfl
      · have n1 : ¬ ((a.toNat : Int) = 43) := fun e => h1 (by_num (k := 43) (y := (a.toNat : Int)) rfl (by omega) e)
        have n2 : ¬ ((a.toNat : Int) = 45) := fun e => h2 (by_num (k := 45) (y := (a.toNat : Int)) rfl (by omega) e)
        rw [if_neg (fun h => n1 h.2), if_neg (fun h => n2 h.2)]
        unfold In.pre
        split <;> simp_all
  | a :: b :: r =>
    have e : bt (a :: b :: r) 0 = (a.toNat : Int) := rfl
    have e1 : bt (a :: b :: r) 1 = (b.toNat : Int) := rfl
    rw [e, e1] at h
    rw [e]
    by_cases h1 : a = 43
    · subst h1; rfl
    · by_cases h2 : a = 45
      · subst h2; rfl
      · have n1 : ¬ ((a.toNat : Int) = 43) := fun e => h1 (by_num (k := 43) (y := (a.toNat : Int)) rfl (by omega) e)
        have n2 : ¬ ((a.toNat : Int) = 45) := fun e => h2 (by_num (k := 45) (y := (a.toNat : Int)) rfl (by omega) e)
        rw [if_neg (fun h => n1 h.2), if_neg (fun h => n2 h.2)]
        unfold In.pre
        split
        · rename_i x heq; injection heq with q1 q2; injection q2 with q2 q3; subst q1; subst q2; exact absurd ⟨by simp, rfl, .inl rfl⟩ h
        · rename_i x heq; injection heq with q1 q2; injection q2 with q2 q3; subst q1; subst q2; exact absurd ⟨by simp, rfl, .inr (.inl rfl)⟩ h
        · rename_i x heq; injection heq with q1 q2; injection q2 with q2 q3; subst q1; subst q2; exact absurd ⟨by simp, rfl, .inr (.inr rfl)⟩ h
        · rename_i x heq; injection heq with q1 q2; exact absurd q1 h1
        · rename_i x heq; injection heq with q1 q2; exact absurd q1 h2
        · rfl
theorem below_tr {W w w' : World} (h : Below W.heap.size W w) (h' : Below w.heap.size w w') : Below W.heap.size W w' := h.trans (h'.mono h.size)
end Go.Proofs.YtbeefjhcbphiaaaGreatDoor.II
/- What landed: a digit, whether it is one of a base. -/
namespace Go.Proofs.YtbeefjhcbphiaaaGreatDoor.II
open Go.RowKit

/-- An integer's text in parts. -/
abbrev wrv (m : Bool) (b : Int) (s : ByteArray) : Value := .agg #[.bool m, .int .i64 b, .string s]
abbrev wrt (m : Bool) (b : Int) (s : ByteArray) : Obj := .cells #[.bool m, .int .i64 b, .string s] 233
theorem pdigit_is {c y : Int} (w : World) (hy : y = gJ c) (h0 : 0 ≤ c) (h1 : c ≤ 255) : Calls Tryz.prog 222 #[.int .u8 c] w fun e w' => e = .returned (.int .i64 y) ∧ w = w' := by
  have HY := Lib.hid hy
  clear hy
  by_cases a48 : 48 ≤ c ∧ c ≤ 57
  · obtain ⟨a2, a3⟩ := a48
    have G := Lib.hid (show gJ c = c - 48 by rw [gJ, if_pos (by omega)]; try omega)
    have hw := sub8 (c := c) (k := 48) a2 (by omega) h1
    go_enter Tryz.func222, Tryz.ntmps222
    go_wp2_with fail
    go_ret
    exact ⟨ret_int (by rw [HY.out, G.out]; try omega), rfl⟩
  by_cases a97 : 97 ≤ c ∧ c ≤ 102
  · obtain ⟨a2, a3⟩ := a97
    have G := Lib.hid (show gJ c = c - 97 + 10 by rw [gJ, if_neg (by omega), if_pos (by omega)]; try omega)
    have n1 : ¬ c ≤ 57 := by omega
    have n3 : 48 ≤ c := by omega
    have hw := sub8 (c := c) (k := 97) a2 (by omega) h1
    clear a48
    go_enter Tryz.func222, Tryz.ntmps222
    go_wp2_with fail
    go_ret
    exact ⟨ret_int (by rw [HY.out, G.out]; try omega), rfl⟩
  by_cases a65 : 65 ≤ c ∧ c ≤ 70
  · obtain ⟨a2, a3⟩ := a65
    have G := Lib.hid (show gJ c = c - 65 + 10 by rw [gJ, if_neg (by omega), if_neg (by omega), if_pos (by omega)]; try omega)
    have n1 : ¬ c ≤ 57 := by omega
    have n2 : ¬ 97 ≤ c := by omega
    have n3 : 48 ≤ c := by omega
    have hw := sub8 (c := c) (k := 65) a2 (by omega) h1
    clear a48 a97
    go_enter Tryz.func222, Tryz.ntmps222
    go_wp2_with fail
    go_ret
    exact ⟨ret_int (by rw [HY.out, G.out]; try omega), rfl⟩
  have E := Lib.hid (show y = -1 by rw [HY.out, gJ, if_neg a48, if_neg a97, if_neg a65])
  by_cases b1 : 48 ≤ c
  · have b2 : ¬ c ≤ 57 := fun h => a48 ⟨b1, h⟩
    by_cases b3 : 97 ≤ c
    · have b4 : ¬ c ≤ 102 := fun h => a97 ⟨b3, h⟩
      have b5 : ¬ c ≤ 70 := by omega
      have b6 : 65 ≤ c := by omega
      clear a48 a97 a65
      go_enter Tryz.func222, Tryz.ntmps222
      go_wp2_with fail
      go_ret
      exact ⟨ret_int (by rw [E.out]), rfl⟩
    · by_cases b5 : 65 ≤ c
      · have b6 : ¬ c ≤ 70 := fun h => a65 ⟨b5, h⟩
        clear a48 a97 a65
        go_enter Tryz.func222, Tryz.ntmps222
        go_wp2_with fail
        go_ret
        exact ⟨ret_int (by rw [E.out]), rfl⟩
      · clear a48 a97 a65
        go_enter Tryz.func222, Tryz.ntmps222
        go_wp2_with fail
        go_ret
        exact ⟨ret_int (by rw [E.out]), rfl⟩
  · have b3 : ¬ 97 ≤ c := by omega
    have b5 : ¬ 65 ≤ c := by omega
    clear a48 a97 a65
    go_enter Tryz.func222, Tryz.ntmps222
    go_wp2_with fail
    go_ret
    exact ⟨ret_int (by rw [E.out]), rfl⟩
theorem gJ_le (c : Int) : -1 ≤ gJ c ∧ gJ c ≤ 15 := by unfold gJ; split <;> (try split) <;> (try split) <;> omega
theorem gJ_dg (c : UInt8) {b : Nat} (h : b ≤ 16) : decide (0 ≤ gJ (c.toNat : Int) ∧ gJ (c.toNat : Int) < b) = decide (In.dg c < b) := by
  have e := dJ_dg c h
  unfold dJ at e
  have := gJ_le (c.toNat : Int)
  congr 1
  apply propext
  constructor
  · rintro ⟨h1, h2⟩
    rw [if_neg (by omega)] at e
    by_cases hd : In.dg c < b
    · exact hd
    · rw [if_neg hd] at e; omega
  · intro hd
    rw [if_pos hd] at e
    split at e
    · omega
    · omega
theorem phas_is {c b : Int} {m x : Bool} {s : ByteArray} (w : World) (hx : x = decide (0 ≤ gJ c ∧ gJ c < b)) (h0 : 0 ≤ c) (h1 : c ≤ 255) : Calls Tryz.prog 221 #[wrv m b s, .int .u8 c] w fun e w' => e = .returned (.bool x) ∧ w' = w.alloc (wrt m b s) := by
  obtain ⟨y, hy⟩ : ∃ y, y = gJ c := ⟨_, rfl⟩
  have HD := Lib.hid (fun w => pdigit_is w hy h0 h1)
  have HX := Lib.hid (show x = decide (0 ≤ y ∧ y < b) by rw [hx, hy])
  clear hx hy h0 h1
  go_enter Tryz.func221, Tryz.ntmps221
  go_wp2_with fail
  refine (HD.out _).mono ?_
  rintro e w1 ⟨rfl, rfl⟩
  by_cases p : 0 ≤ y
  · by_cases q : y < b
    · obtain rfl : x = true := by rw [HX.out]; simp [p, q]
      go_wp2_with fail
      go_ret
      exact ⟨rfl, rfl⟩
    · obtain rfl : x = false := by rw [HX.out]; simp [q]
      go_wp2_with fail
      go_ret
      exact ⟨ret_bool (by simp [q]), rfl⟩
  · obtain rfl : x = false := by rw [HX.out]; simp [p]
    go_wp2_with fail
    go_ret
    exact ⟨rfl, rfl⟩
end Go.Proofs.YtbeefjhcbphiaaaGreatDoor.II
/- What landed: digits with one low mark between two of them at most. -/
namespace Go.Proofs.YtbeefjhcbphiaaaGreatDoor.II
open Go.RowKit

theorem below_alloc {W w : World} {o : Obj} (h : Below (W.alloc o).heap.size (W.alloc o) w) : Below W.heap.size W w :=
  ((Below.refl W.heap.size W).alloc (Nat.le_refl _) o).trans (h.mono (by simp))
/-- The parts' own block, whatever came behind it. -/
theorem wr_cells {W w : World} {m : Bool} {b : Int} {s : ByteArray} (h : Below (W.alloc (wrt m b s)).heap.size (W.alloc (wrt m b s)) w) :
    w.cell? ⟨W.heap.size, 0, none⟩ = some (.bool m) ∧ w.cell? ⟨W.heap.size, 1, none⟩ = some (.int .i64 b) ∧ w.cell? ⟨W.heap.size, 2, none⟩ = some (.string s) := by
  refine ⟨?_, ?_, ?_⟩ <;> (rw [h.cell (by simp), World.cell?_alloc_new]; rfl)
/-- A round of the look at the digits. -/
def SpRel (W : World) (b : Nat) (r : List UInt8) (k : Nat) (y : Int) (wx : World) : Prop :=
  k ≤ r.length ∧ In.spc b false r = In.spc b (decide (y ≠ 95)) (r.drop k) ∧ Below W.heap.size W wx
theorem spc_end {b : Nat} {r : List UInt8} {k : Nat} {p : Bool} (h : k = r.length) : In.spc b p (r.drop k) = p := by
  rw [h, List.drop_length]; rfl
theorem spc_95 {b : Nat} {r : List UInt8} {k : Nat} (h : k < r.length) (hy : bt r k = 95) (p : Bool) : In.spc b p (r.drop k) = if p = true then In.spc b false (r.drop (k + 1)) else false := by
  obtain ⟨c, e, hb⟩ := drop_one h
  obtain rfl : c = 95 := by_num (k := 95) hb (by omega) hy
  rw [e, In.spc, if_pos rfl]
theorem spc_dg {b : Nat} (hb : b ≤ 16) {r : List UInt8} {k : Nat} (h : k < r.length) (hy : bt r k ≠ 95) (p : Bool) : In.spc b p (r.drop k) = if decide (0 ≤ gJ (bt r k) ∧ gJ (bt r k) < b) = true then In.spc b true (r.drop (k + 1)) else false := by
  obtain ⟨c, e, hbb⟩ := drop_one h
  rw [hbb] at hy ⊢
  rw [gJ_dg c hb, e, In.spc, if_neg (by rintro rfl; exact hy rfl)]
  simp
set_option maxHeartbeats 4000000 in
set_option maxRecDepth 100000 in
theorem pspaced_is {r : List UInt8} {s : ByteArray} {m x : Bool} {b : Nat} (w : World) (hs : s = txt r) (hl : r.length ≤ 100000) (hb : b ≤ 16) (hx : x = In.spc b false r) :
    Calls Tryz.prog 201 #[wrv m b s] w fun e w' => e = .returned (.bool x) ∧ Below w.heap.size w w' := by
  have HS := Lib.hid hs
  have HZ := Lib.hid (show s.size = r.length by rw [hs, txt_size])
  have hsz : s.size ≤ 100000 := by rw [HZ.out]; exact hl
  have HX := Lib.hid hx
  have HBB := Lib.hid hb
  have R0 : SpRel (w.alloc (wrt m b s)) b r 0 95 (w.alloc (wrt m b s)) := ⟨Nat.zero_le _, rfl, Below.refl _ _⟩
  clear hs hl hx hb
  go_enter Tryz.func201, Tryz.ntmps201
  go_wp2_with fail
  go_loopw [3, 9] (fun v i wx => ∃ (k : Nat) (y : Int), i = .int .i64 k ∧ v = .int .u8 y ∧ SpRel (w.alloc (wrt m b s)) b r k y wx) (fun _ i _ => s.size - (intOf i).toNat)
  case atStart => exact ⟨0, 95, rfl, rfl, R0⟩
  case round =>
    obtain ⟨k, y, rfl, rfl, Rk⟩ := hrel
    clear R0
    have HRk := Lib.hid Rk
    obtain ⟨c0, c1, c2⟩ := wr_cells Rk.2.2
    have hkT : k ≤ s.size := by rw [HZ.out]; exact Rk.1
    clear Rk
    by_cases hlt : k < s.size
    · have hkr : k < r.length := by rw [← HZ.out]; exact hlt
      have hx := txt_at HS.out (k := k)
      have b0 := bt_lo r k
      have b1 := bt_hi r k
      obtain ⟨z, HYY⟩ : ∃ z, Hid (z = bt r k) := ⟨_, rfl⟩
      rw [← HYY.out] at hx b0 b1
      by_cases h95 : z = 95
      · have HE := Lib.hid (show bt r k = 95 by rw [← HYY.out]; exact h95)
        have E := Lib.hid (spc_95 (b := b) hkr HE.out (decide (y ≠ 95)))
        subst h95
        by_cases hy : y = 95
        · have F := Lib.hid (show x = false by rw [HX.out, HRk.out.2.1, E.out, hy]; rfl)
          subst hy
          go_wp2_with fail
          go_ret
          exact ⟨ret_bool (by rw [F.out]), below_alloc HRk.out.2.2⟩
        · have hyi : (y == 95) = false := by simp [hy]
          have F := Lib.hid (show SpRel (w.alloc (wrt m b s)) b r (k + 1) 95 _ from ⟨hkr, by rw [HRk.out.2.1, E.out, decide_eq_true hy]; rfl, HRk.out.2.2⟩)
          go_wp2_with fail
          exact ⟨⟨k + 1, 95, by simp, rfl, F.out⟩, by simp [intOf]; omega⟩
      · have hzi : (z == 95) = false := by simp [h95]
        have HE := Lib.hid (show bt r k ≠ 95 by rw [← HYY.out]; exact h95)
        obtain ⟨q, hq⟩ : ∃ q, q = decide (0 ≤ gJ z ∧ gJ z < (b : Int)) := ⟨_, rfl⟩
        have E := Lib.hid (spc_dg HBB.out hkr HE.out (decide (y ≠ 95)))
        rw [← HYY.out, ← hq] at E
        have HP := Lib.hid (fun w => phas_is (m := m) (s := s) w hq b0 b1)
        clear hq
        go_wp2_with fail
        refine (HP.out _).mono ?_
        rintro e w1 ⟨rfl, rfl⟩
        cases q
        · have F := Lib.hid (show x = false by rw [HX.out, HRk.out.2.1, E.out]; rfl)
          go_wp2_with fail
          go_ret
          exact ⟨ret_bool (by rw [F.out]), (below_alloc HRk.out.2.2).alloc (below_alloc HRk.out.2.2).size _⟩
        · have F := Lib.hid (show In.spc b false r = In.spc b (decide (z ≠ 95)) (r.drop (k + 1)) by rw [HRk.out.2.1, E.out, decide_eq_true h95]; rfl)
          go_wp2_with fail
          exact ⟨⟨k + 1, z, by simp, rfl, hkr, F.out, HRk.out.2.2.alloc HRk.out.2.2.size _⟩, by simp [intOf]; omega⟩
    · have F := Lib.hid (show x = decide (y ≠ 95) by rw [HX.out, HRk.out.2.1, spc_end (by rw [← HZ.out]; omega)])
      go_wp2_with fail
      go_ret
      exact ⟨ret_bool (by rw [F.out]; by_cases h : y = 95 <;> simp [h]), below_alloc HRk.out.2.2⟩
end Go.Proofs.YtbeefjhcbphiaaaGreatDoor.II
/- What landed: the amount of digits, its sign. -/
namespace Go.Proofs.YtbeefjhcbphiaaaGreatDoor.II
open Go.RowKit

/-- What the amount is told as. -/
def amv : Option Nat → Value
  | some n => .tuple #[.int .u64 n, .bool true]
  | none => .tuple #[.int .u64 0, .bool false]
def AmRel (W : World) (b M : Nat) (r : List UInt8) (k n : Nat) (wx : World) : Prop :=
  k ≤ r.length ∧ In.amt b M 0 r = In.amt b M n (r.drop k) ∧ n ≤ M ∧ Below W.heap.size W wx
theorem amt_95 {b M : Nat} {r : List UInt8} {k n : Nat} (h : k < r.length) (hy : bt r k = 95) : In.amt b M n (r.drop k) = In.amt b M n (r.drop (k + 1)) := by
  obtain ⟨c, e, hb⟩ := drop_one h
  obtain rfl : c = 95 := by_num (k := 95) hb (by omega) hy
  rw [e, In.amt, if_pos rfl]
theorem amt_dg {b M : Nat} (hb : b ≤ 16) {r : List UInt8} (ho : In.okB b r) {k n : Nat} (h : k < r.length) (hy : bt r k ≠ 95) : ∃ d : Nat, gJ (bt r k) = (d : Int) ∧ d < b ∧ In.amt b M n (r.drop k) = if (M - d) / b < n then none else In.amt b M (n * b + d) (r.drop (k + 1)) := by
  obtain ⟨c, e, hbb⟩ := drop_one h
  rw [hbb] at hy ⊢
  have hc : c ≠ 95 := by rintro rfl; exact hy rfl
  have hm : c ∈ r := by
    have : c ∈ r.drop k := by rw [e]; simp
    exact List.mem_of_mem_drop this
  have hd : In.dg c < b := (ho c hm).resolve_left hc
  have hj := dJ_dg c hb
  rw [if_pos hd] at hj
  unfold dJ at hj
  refine ⟨In.dg c, ?_, hd, ?_⟩
  · split at hj
    · omega
    · exact hj
  · rw [e, In.amt, if_neg hc]
theorem amt_end {b M n : Nat} {r : List UInt8} {k : Nat} (h : k = r.length) : In.amt b M n (r.drop k) = some n := by
  rw [h, List.drop_length]; rfl
theorem int_of_u64 {b : Nat} (h : b ≤ 16) : IntKind.u64.wrap (b : Int) = b := IntWalk.u64_in _ (by omega)
/-- The room above an amount. -/
theorem room {M d b n : Nat} (hM : M ≤ 9223372036854775808) (hb : 2 ≤ b) (hd : d < b) (hb2 : b ≤ 16) (hMb : 16 ≤ M) (h : ¬ (M - d) / b < n) : n * b + d ≤ M := by
  have h2 : n ≤ (M - d) / b := by omega
  have h3 := (Nat.le_div_iff_mul_le (by omega : 0 < b)).1 h2
  omega
theorem below_drewN {B : Nat} {W w : World} (h : Below B W w) (n : Nat) : Below B W (w.drewN n) := ⟨h.os, h.tape, h.output, h.size, h.block⟩
set_option maxHeartbeats 4000000 in
set_option maxRecDepth 100000 in
theorem pamount_is {r : List UInt8} {s : ByteArray} {m : Bool} {b : Nat} {v : Value} (w : World) (hs : s = txt r) (hl : r.length ≤ 100000) (hb2 : 2 ≤ b) (hb : b ≤ 16) (ho : In.okB b r) (hv : v = amv (In.amt b (In.lim m) 0 r)) :
    Calls Tryz.prog 202 #[wrv m b s] w fun e w' => e = .returned v ∧ Below w.heap.size w w' := by
  have HS := Lib.hid hs
  have HZ := Lib.hid (show s.size = r.length by rw [hs, txt_size])
  have hsz : s.size ≤ 100000 := by rw [HZ.out]; exact hl
  have HV := Lib.hid hv
  have HO := Lib.hid ho
  have HBB := Lib.hid hb
  have HB2 := Lib.hid hb2
  have hbw := int_of_u64 hb
  have hbz : ¬ b = 0 := by omega
  obtain ⟨M, hM⟩ : ∃ M : Nat, Hid (M = In.lim m) := ⟨_, Lib.hid rfl⟩
  have HM := Lib.hid (show 9223372036854775807 ≤ M ∧ M ≤ 9223372036854775808 by rw [hM.out]; exact In.lim_le m)
  have HMM := Lib.hid (show (M : Int) = if m = true then 9223372036854775808 else 9223372036854775807 by rw [hM.out]; cases m <;> rfl)
  rw [← hM.out] at HV
  clear hs hl hb2 hb ho hv hM
  go_enter Tryz.func202, Tryz.ntmps202
  go_upto_region 1 with fail
  go_quiet (fail)
  go_upto_if 12 with fail
  go_cut [4] (fun x wx => x = .int .u64 M ∧ Below (w.alloc (wrt m b s)).heap.size (w.alloc (wrt m b s)) wx)
  case first =>
    cases m
    · go_wp2_with fail
      go_meet
      exact ⟨by rw [HMM.out]; rfl, below_drewN (Below.refl _ _) _⟩
    · go_wp2_with fail
      go_meet
      exact ⟨by rw [HMM.out]; rfl, below_drewN (Below.refl _ _) _⟩
  case rest =>
    obtain ⟨rfl, hb0⟩ := hcut
    have R0 : AmRel (w.alloc (wrt m b s)) b M r 0 0 wc := ⟨Nat.zero_le _, rfl, Nat.zero_le _, hb0⟩
    obtain ⟨d0, d1, d2⟩ := wr_cells hb0
    clear hb0
    go_wp2_with fail
    clear d0 d1 d2
    go_loopw [2, 18] (fun v i wx => ∃ (k n : Nat), i = .int .i64 k ∧ v = .int .u64 n ∧ AmRel (w.alloc (wrt m b s)) b M r k n wx) (fun _ i _ => s.size - (intOf i).toNat)
    case atStart => exact ⟨0, 0, rfl, rfl, R0⟩
    case round =>
      obtain ⟨k, n, rfl, rfl, Rk⟩ := hrel
      clear R0
      have HRk := Lib.hid Rk
      obtain ⟨c0, c1, c2⟩ := wr_cells Rk.2.2.2
      have hkT : k ≤ s.size := by rw [HZ.out]; exact Rk.1
      clear Rk
      by_cases hlt : k < s.size
      · have hkr : k < r.length := by rw [← HZ.out]; exact hlt
        have hx := txt_at HS.out (k := k)
        have b0 := bt_lo r k
        have b1 := bt_hi r k
        obtain ⟨z, HYY⟩ : ∃ z, Hid (z = bt r k) := ⟨_, rfl⟩
        rw [← HYY.out] at hx b0 b1
        by_cases h95 : z = 95
        · have HE := Lib.hid (show bt r k = 95 by rw [← HYY.out]; exact h95)
          have F := Lib.hid (show AmRel (w.alloc (wrt m b s)) b M r (k + 1) n _ from ⟨hkr, by rw [HRk.out.2.1, amt_95 hkr HE.out], HRk.out.2.2.1, HRk.out.2.2.2⟩)
          subst h95
          go_wp2_with fail
          exact ⟨⟨k + 1, n, by simp, rfl, F.out⟩, by show s.size - ((k : Int) + 1).toNat < s.size - (k : Int).toNat; omega⟩
        · have hzi : (z == 95) = false := by simp [h95]
          have HE := Lib.hid (show bt r k ≠ 95 by rw [← HYY.out]; exact h95)
          obtain ⟨d, hd, hdb, he⟩ := amt_dg (M := M) (n := n) HBB.out HO.out hkr HE.out
          rw [← HYY.out] at hd
          have HP := Lib.hid (fun w => pdigit_is w hd.symm b0 b1)
          have HDB := Lib.hid hdb
          have HEE := Lib.hid he
          have w1 : IntKind.u64.wrap (d : Int) = d := IntWalk.u64_in _ (by have := HBB.out; omega)
          have w2 : IntKind.u64.wrap ((M : Int) - d) = ((M - d : Nat) : Int) := by
            have := HBB.out; have := HM.out
            rw [IntWalk.u64_in _ (by omega)]; omega
          obtain ⟨X, hX⟩ : ∃ X : Nat, X = M - d := ⟨_, rfl⟩
          rw [← hX] at w2
          have w3 : IntKind.u64.wrap ((X : Int) / b) = ((X / b : Nat) : Int) := by
            have h1 : X / b ≤ X := Nat.div_le_self _ _
            have := HM.out
            rw [IntWalk.u64_in _ (by constructor; exact Int.ediv_nonneg (by omega) (by omega); rw [← Int.natCast_ediv]; omega), Int.natCast_ediv]
          obtain ⟨Y, hY⟩ : ∃ Y : Nat, Y = X / b := ⟨_, rfl⟩
          rw [← hY] at w3
          by_cases hq : Y < n
          · have F := Lib.hid (show v = amv none by rw [HV.out, HRk.out.2.1, HEE.out, ← hX, ← hY, if_pos hq])
            have hqi : (Y : Int) < n := by omega
            clear he hd hdb hX hY
            go_wp2_with fail
            refine (HP.out _).mono ?_
            rintro e w1 ⟨rfl, rfl⟩
            go_wp2_with fail
            go_ret2
            exact ⟨by rw [F.out]; rfl, below_alloc HRk.out.2.2.2⟩
          · have hrm := room (n := n) HM.out.2 HB2.out hdb HBB.out (by have := HM.out; omega) (by rw [← hX, ← hY]; exact hq)
            have F := Lib.hid (show AmRel (w.alloc (wrt m b s)) b M r (k + 1) (n * b + d) _ from ⟨hkr, by rw [HRk.out.2.1, HEE.out, ← hX, ← hY, if_neg hq], hrm, HRk.out.2.2.2⟩)
            have hqi : ¬ (Y : Int) < n := by omega
            obtain ⟨U, hU⟩ : ∃ U : Nat, U = n * b := ⟨_, rfl⟩
            rw [← hU] at hrm F
            have w4 : IntKind.u64.wrap ((n : Int) * b) = U := by
              have := HM.out
              rw [hU, IntWalk.u64_in _ (by constructor; exact Int.mul_nonneg (by omega) (by omega); rw [← Int.natCast_mul, ← hU]; omega), Int.natCast_mul]
            have w5 : IntKind.u64.wrap ((U : Int) + d) = ((U + d : Nat) : Int) := by
              have := HM.out
              rw [IntWalk.u64_in _ (by omega)]; omega
            clear he hd hdb hX hY hU hrm
            go_wp2_with fail
            refine (HP.out _).mono ?_
            rintro e w1 ⟨rfl, rfl⟩
            go_wp2_with fail
            exact ⟨⟨k + 1, U + d, by simp, rfl, F.out⟩, by show s.size - ((k : Int) + 1).toNat < s.size - (k : Int).toNat; omega⟩
      · have F := Lib.hid (show v = amv (some n) by rw [HV.out, HRk.out.2.1, amt_end (by rw [← HZ.out]; omega)])
        go_wp2_with fail
        go_ret2
        exact ⟨by rw [F.out]; rfl, below_alloc HRk.out.2.2.2⟩
end Go.Proofs.YtbeefjhcbphiaaaGreatDoor.II
/- What landed: a value with its sign. -/
namespace Go.Proofs.YtbeefjhcbphiaaaGreatDoor.II
open Go.RowKit

/-- What a value is told as. -/
def vav (m : Bool) : Option Nat → Value
  | some n => .tuple #[.int .i64 (In.sg2 m n), .bool true]
  | none => .tuple #[.int .i64 0, .bool false]
theorem amt_le {b M : Nat} : ∀ (r : List UInt8) (m n : Nat), m ≤ M → 0 < b → b ≤ 16 → 16 ≤ M → In.okB b r → In.amt b M m r = some n → n ≤ M
  | [], m, n, hm, _, _, _, _, h => by rw [In.amt] at h; injection h with h; omega
  | c :: r, m, n, hm, hb, hb2, hM, ho, h => by
    have ho2 : In.okB b r := fun x hx => ho x (List.mem_cons_of_mem _ hx)
    rw [In.amt] at h
    split at h
    · exact amt_le r m n hm hb hb2 hM ho2 h
    · rename_i hc
      have hd := (ho c (by simp)).resolve_left hc
      split at h
      · cases h
      · rename_i hq
        have h2 : m ≤ (M - In.dg c) / b := by omega
        have h3 := (Nat.le_div_iff_mul_le hb).1 h2
        exact amt_le r _ n (by omega) hb hb2 hM ho2 h
theorem sg_minus {n : Nat} (h : n ≤ 9223372036854775808) : IntKind.i64.wrap (-(IntKind.i64.wrap (n : Int))) = -(n : Int) := by
  by_cases h2 : n = 9223372036854775808
  · subst h2; decide +kernel
  · rw [IntWalk.i64_in (n : Int) (by omega), IntWalk.i64_in _ (by omega)]
set_option maxHeartbeats 4000000 in
theorem pvalue_is {r : List UInt8} {s : ByteArray} {m : Bool} {b : Nat} {v : Value} (w : World) (hs : s = txt r) (hl : r.length ≤ 100000) (hb2 : 2 ≤ b) (hb : b ≤ 16) (ho : In.okB b r) (hv : v = vav m (In.amt b (In.lim m) 0 r)) :
    Calls Tryz.prog 180 #[wrv m b s] w fun e w' => e = .returned v ∧ Below w.heap.size w w' := by
  obtain ⟨A, hA⟩ : ∃ A, A = In.amt b (In.lim m) 0 r := ⟨_, rfl⟩
  have HA := Lib.hid (fun w => pamount_is (m := m) w hs hl hb2 hb ho (by rw [← hA]))
  have HL : Hid (∀ n, A = some n → n ≤ In.lim m) := Lib.hid (fun n e => amt_le r 0 n (Nat.zero_le _) (by omega) hb (by have := In.lim_le m; omega) ho (by rw [← hA]; exact e))
  have HV := Lib.hid (show v = vav m A by rw [hv, hA])
  clear hs hl hb2 hb ho hv hA
  go_enter Tryz.func180, Tryz.ntmps180
  go_wp2_with fail
  refine (HA.out _).mono ?_
  rintro e w1 ⟨rfl, hb⟩
  have HB := Lib.hid (below_alloc hb)
  obtain ⟨c0, c1, c2⟩ := wr_cells hb
  clear hb HA
  cases A with
  | none =>
    rw [amv]
    go_wp2_with fail
    go_ret2
    exact ⟨by rw [HV.out]; rfl, HB.out⟩
  | some n =>
    rw [amv]
    have hn := HL.out n rfl
    cases m
    · have e1 : IntKind.i64.wrap (n : Int) = n := IntWalk.i64_in _ (by simp [In.lim] at hn; omega)
      clear hn HL
      go_wp2_with fail
      go_ret2
      exact ⟨by rw [HV.out]; rfl, HB.out⟩
    · obtain ⟨x, hx⟩ : ∃ x, x = IntKind.i64.wrap (n : Int) := ⟨_, rfl⟩
      have e1 : IntKind.i64.wrap (n : Int) = x := hx.symm
      have e2 : IntKind.i64.wrap (-x) = -(n : Int) := by rw [hx]; exact sg_minus (by simp [In.lim] at hn; omega)
      clear hn HL hx
      go_wp2_with fail
      go_ret2
      exact ⟨by rw [HV.out]; rfl, HB.out⟩
end Go.Proofs.YtbeefjhcbphiaaaGreatDoor.II
