/- The program's own normal form as a text, walked. -/
import Derived.Test.YthjlnafmpcppfaaGreatDoorRd2
import Derived.Sort.Grow
import Derived.Deep.RegionHeld3
namespace Go.Proofs.YthjlnafmpcppfaaGreatDoor
open Go.RowKit

/-- The library's table of powers lies as its text lays it. -/
def Tab (w : World) : Prop := Lib.TabIs Tryz.prog w "internal/strconv.uint64pow10" .u64 Lib.pow10Tab
theorem gPow : Tryz.prog.globalNamed "internal/strconv.uint64pow10" = some 2 := by kernel_rfl
theorem Tab.on {w w' : World} (h : Tab w) (hb : Below w.heap.size w w') : Tab w' := by
  unfold Tab Lib.TabIs World.var? at h ⊢
  rw [gPow] at h ⊢
  simp only [Option.bind_some] at h ⊢
  have hlt : 2 < w.heap.size := by
    rcases Nat.lt_or_ge 2 w.heap.size with h' | h'
    · exact h'
    · rw [Array.getElem?_eq_none h'] at h; cases h
  rw [hb.block _ hlt]
  exact h
theorem itoN_dec (n : Nat) : itoN n = Lib.decDigits n := by
  induction n using Nat.strongRecOn with
  | ind n ih =>
    rw [itoN, Lib.decDigits]
    by_cases h : n < 10
    · rw [if_pos h, dif_pos h]
    · rw [if_neg h, dif_neg h, ih (n / 10) (by omega)]
theorem itoL_itoa (n : Int) : itoL n = Lib.itoa n := by
  unfold itoL Lib.itoa
  rw [itoN_dec, itoN_dec]
  by_cases h : n < 0
  · rw [if_pos h, if_pos h, show (-n).toNat = n.natAbs by omega]
  · rw [if_neg h, if_neg h]
theorem itoa_is {n : Int} {x : ByteArray} (hx : x = txt (itoL n)) (h0 : -9223372036854775808 ≤ n) (h1 : n ≤ 9223372036854775807) (w : World) (ht : Tab w) :
    Calls Tryz.prog 52 #[.int .i64 n] w fun e w' => e = .returned (.string x) ∧ Below w.heap.size w w' := by
  refine (Tryz.strconv_Itoa n h0 h1 w ht).mono ?_
  rintro e w' ⟨rfl, k, os, rfl⟩
  exact ⟨by rw [hx, itoL_itoa]; rfl, ⟨rfl, rfl, rfl, by simp [Sort.grow], fun j hj => Sort.heap_grow_old _ _ hj⟩⟩
/-- Is it nought's normal form? -/
def ngt (m : Bool) (D : List UInt8) (x : Int) : Bool := decide (m = false ∧ D = [48] ∧ x = 0)
theorem nought_any {D : List UInt8} {m : Bool} {d : ByteArray} (x : Int) (w : World) (hd : d = txt D) :
    Calls Tryz.prog 51 #[fv m d x] w fun e w' => e = .returned (.bool (ngt m D x)) ∧ w' = w.alloc (fo m d x) := by
  go_enter Tryz.func51, Tryz.ntmps51
  go_wp2_with fail
  all_goals (go_ret; simp_all [ngt, txt_list])
theorem nought_is {D : List UInt8} {m : Bool} {d : ByteArray} {x : Int} (q : Bool) (w : World) (hd : d = txt D) (hq : q = ngt m D x) :
    Calls Tryz.prog 51 #[fv m d x] w fun e w' => e = .returned (.bool q) ∧ w' = w.alloc (fo m d x) := by subst hq; exact nought_any x w hd
/-- The normal form as a text. -/
def fmt (m : Bool) (D : List UInt8) (x : Int) : List UInt8 := if ngt m D x = true then [48] else mk m D x
structure TS (w : World) (d : ByteArray) (x : Int) (wr : World) : Prop where
  below : Below w.heap.size w wr
  more : w.heap.size < wr.heap.size
  c1 : wr.cell? ⟨w.heap.size, 1, none⟩ = some (.string d)
  c2 : wr.cell? ⟨w.heap.size, 2, none⟩ = some (.int .i64 x)
theorem TS.on {w : World} {d : ByteArray} {x : Int} {wr w' : World} (h : TS w d x wr) (hb : Below wr.heap.size wr w') : TS w d x w' :=
  ⟨h.below.trans (hb.mono h.below.size), Nat.lt_of_lt_of_le h.more hb.size, (hb.cell (by exact h.more)).trans h.c1, (hb.cell (by exact h.more)).trans h.c2⟩
theorem TS.drew {w : World} {d : ByteArray} {x : Int} {wr : World} (h : TS w d x wr) : TS w d x wr.drew := h.on ((Below.refl _ _).drew)
set_option maxRecDepth 100000 in
set_option maxHeartbeats 2000000 in
theorem text_any {D : List UInt8} {m : Bool} {d : ByteArray} (x : Int) (w : World) (ht : Tab w) (hd : d = txt D) (hD : D.length ≤ 3000000) (h1 : -1000000000 ≤ x) (h2 : x ≤ 1000000000) :
    Calls Tryz.prog 32 #[fv m d x] w fun e w' => e = .returned (.string (txt (fmt m D x))) ∧ Below w.heap.size w w' := by
  obtain ⟨q, hq⟩ : ∃ q, q = ngt m D x := ⟨_, rfl⟩
  have NG := Lib.hid (fun w => nought_is (d := d) q w hd hq)
  obtain ⟨t, htx⟩ : ∃ t, t = txt (itoL x) := ⟨_, rfl⟩
  obtain ⟨g, hg⟩ : ∃ g, g = txt (sg m) := ⟨_, rfl⟩
  have IT := Lib.hid (fun w => itoa_is htx (by omega) (by omega) w)
  have htl : t.size ≤ 1000000003 := by rw [htx, txt_size]; exact itoL_len h1 h2
  have hdl : d.size ≤ 3000000 := by rw [hd, txt_size]; omega
  have hgl : g.size ≤ 1 := by rw [hg, txt_size]; cases m <;> simp [sg]
  obtain ⟨y1, hy1⟩ : ∃ y, g ++ d = y := ⟨_, rfl⟩
  obtain ⟨y2, hy2⟩ : ∃ y, y1 ++ ⟨#[101]⟩ = y := ⟨_, rfl⟩
  obtain ⟨y3, hy3⟩ : ∃ y, y2 ++ t = y := ⟨_, rfl⟩
  have z1 : y1.size ≤ 3000001 := by rw [← hy1, ByteArray.size_append]; omega
  have z2 : y2.size ≤ 3000002 := by rw [← hy2, ByteArray.size_append]; show y1.size + 1 ≤ _; omega
  have n1 : ¬ (9223372036854775807 < g.size + d.size) := by omega
  have n2 : ¬ (9223372036854775807 < y1.size + 1) := by omega
  have n2' : ¬ (9223372036854775807 < y1.size + ByteArray.size ⟨#[101]⟩) := by show ¬ (9223372036854775807 < y1.size + 1); omega
  have n3 : ¬ (9223372036854775807 < y2.size + t.size) := by omega
  have HF := Lib.hid (show q = false → txt (fmt m D x) = y3 by
    intro h
    unfold fmt
    rw [← hq, h, if_neg (by simp)]
    unfold mk
    rw [← txt_app, ← txt_app, ← txt_app, ← hd, ← htx, ← hg, ← hy3, ← hy2, ← hy1]
    rfl)
  have HQ := Lib.hid (show q = true → fmt m D x = [48] by intro h; unfold fmt; rw [← hq, h, if_pos rfl])
  have HG0 := Lib.hid (show m = false → g = ⟨#[]⟩ by intro h; rw [hg, h]; rfl)
  have HG1 := Lib.hid (show m = true → g = ⟨#[45]⟩ by intro h; rw [hg, h]; rfl)
  have HT := Lib.hid ht
  have HY1 := Lib.hid hy1
  have HY2 := Lib.hid hy2
  have HY3 := Lib.hid hy3
  clear hd hq htx hg ht hD h1 h2 hy1 hy2 hy3
  go_enter Tryz.func32, Tryz.ntmps32
  go_wp2_with fail
  refine (NG.out _).mono ?_
  rintro e w1 ⟨rfl, rfl⟩
  cases q
  · have HF2 := Lib.hid (HF.out rfl)
    clear HF HQ NG
    obtain ⟨W, hW⟩ : ∃ W, W = (w.alloc (fo m d x)).alloc (fo m d x) := ⟨_, rfl⟩
    have hb : Below w.heap.size w W := by rw [hW]; exact ((Below.refl _ _).alloc (Nat.le_refl _) _).alloc (by simp) _
    have hc0 : W.cell? ⟨w.heap.size, 0, none⟩ = some (.bool m) := by rw [hW]; simp [go_sem]
    have hc1 : W.cell? ⟨w.heap.size, 1, none⟩ = some (.string d) := by rw [hW]; simp [go_sem]
    have hc2 : W.cell? ⟨w.heap.size, 2, none⟩ = some (.int .i64 x) := by rw [hW]; simp [go_sem]
    have hlt : w.heap.size < W.heap.size := by rw [hW]; simp; omega
    rw [← hW]
    clear hW
    have hS : TS w d x W := ⟨hb, hlt, hc1, hc2⟩
    have HS := Lib.hid hS
    clear hS hb hlt
    go_upto_if 7 with fail
    go_cut [3] (fun v wx => v = .string g ∧ W = wx)
    case first =>
      cases m
      · have E := Lib.hid (HG0.out rfl)
        go_wp2_with fail
        go_meet
        exact ⟨by rw [E.out], rfl⟩
      · have E := Lib.hid (HG1.out rfl)
        go_wp2_with fail
        go_meet
        exact ⟨by rw [E.out], rfl⟩
    case rest =>
      obtain ⟨rfl, rfl⟩ := hcut
      have hy1 := HY1.out
      have hy2 := HY2.out
      have hy3 := HY3.out
      have hS := HS.out
      go_upto_region 6 with fail
      go_region_held3 (fun wx => TS w d x wx ∧ wx.cell? ⟨w.heap.size, 1, none⟩ = some (.string d) ∧ wx.cell? ⟨w.heap.size, 2, none⟩ = some (.int .i64 x))
        (((try go_split_ands); refine (fun h => ⟨h, h.c1, h.c2⟩) ?_; first | assumption | exact TS.drew (by assumption) | (refine TS.on ?_ hb; assumption)))
        (((try go_split_ands); go_at_call 52; refine (IT.out _ (HT.out.on (TS.below (by assumption)))).mono ?_; rintro e w1 ⟨rfl, hb⟩))
      rename_i hS2
      go_wp2_with fail
      go_ret
      exact ⟨ret_str HF2.out.symm, hS2.1.below⟩
  · have HQ2 := Lib.hid (HQ.out rfl)
    clear HF HQ
    go_wp2_with fail
    go_ret
    exact ⟨ret_str (by rw [HQ2.out]; rfl), ((Below.refl _ _).alloc (Nat.le_refl _) _).alloc (by simp) _⟩
end Go.Proofs.YthjlnafmpcppfaaGreatDoor
