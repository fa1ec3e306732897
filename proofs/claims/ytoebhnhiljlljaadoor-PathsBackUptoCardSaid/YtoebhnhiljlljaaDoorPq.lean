/- What landed of paths: a path's text. -/
import Derived.Test.YtoebhnhiljlljaaDoorPp
import Derived.Test.YtoebhnhiljlljaaDoorPn
import Derived.Test.YtoebhnhiljlljaaDoorPb
import Derived.Lib.ItoaMem
import Derived.Lib.ItoaLen
namespace Go.Proofs.YtoebhnhiljlljaaDoor
open Go.RowKit
namespace Pa
set_option maxRecDepth 100000

/-- The library's table of powers. -/
def P10 (w : World) : Prop := Lib.TabIs Tryd.prog w "internal/strconv.uint64pow10" .u64 Lib.pow10Tab
theorem gPow : Tryd.prog.globalNamed "internal/strconv.uint64pow10" = some 1 := by kernel_rfl
theorem P10.on {Lo : Nat} {w w' : World} (h : P10 w) (hl : 1 < Lo) (hb : Below Lo w w') : P10 w' := by
  unfold P10 Lib.TabIs World.var? at h ⊢
  rw [gPow] at h ⊢
  simp only [Option.bind_some] at h ⊢
  rw [hb.block _ hl]
  exact h
theorem P10.lt {w : World} (h : P10 w) : 1 < w.heap.size := by
  unfold P10 Lib.TabIs World.var? at h
  rw [gPow] at h
  simp only [Option.bind_some] at h
  rcases Nat.lt_or_ge 1 w.heap.size with h' | h'
  · exact h'
  · rw [Array.getElem?_eq_none h'] at h; cases h
theorem P10.up {w w' : World} (h : P10 w) (hb : Below w.heap.size w w') : P10 w' := h.on h.lt hb
theorem digF_dec : ∀ (f n : Nat), n ≤ f → digF f n = Lib.decDigits n
  | 0, n, h => by
    obtain rfl : n = 0 := by omega
    rw [Lib.decDigits, dif_pos (by omega)]; rfl
  | f + 1, n, h => by
    have e : ∀ k : Fin 10, (48 : UInt8) + UInt8.ofNat k = UInt8.ofNat (48 + k) := by decide +kernel
    have e2 := e ⟨n % 10, by omega⟩
    have e2 : (48 : UInt8) + UInt8.ofNat (n % 10) = UInt8.ofNat (48 + n % 10) := e2
    rw [digF, Lib.decDigits]
    split
    · next h1 => rw [e2, Nat.mod_eq_of_lt h1]
    · next h1 => rw [digF_dec f (n / 10) (by omega), e2]
theorem digs_dec (n : Nat) : digs n = Lib.decDigits n := digF_dec n n (Nat.le_refl _)
theorem below_grow (w : World) (q : Nat) (os : Array Obj) : Below w.heap.size w (Sort.grow (w.drewN q) os) :=
  ⟨rfl, rfl, rfl, by simp [Sort.grow], fun g hg => by simp [Sort.grow, Array.getElem?_append, hg]⟩
theorem itoa_any {p : Int} (w : World) (h0 : 0 ≤ p) (h1 : p ≤ 9223372036854775807) (hT : P10 w) :
    Calls Tryd.prog 44 #[.int .i64 p] w fun e w' => e = .returned (.string (txt (digs p.toNat))) ∧ Below w.heap.size w w' := by
  refine (Tryd.strconv_Itoa p (by omega) h1 w hT).mono fun e w' ⟨e1, q, os, e2⟩ => ⟨?_, e2 ▸ below_grow w q os⟩
  rw [e1, digs_dec]
  unfold Lib.itoa
  rw [if_neg (by omega)]; rfl
set_option maxHeartbeats 4000000 in
theorem written_any (s : St) (w : World) (hs : s.may = true) (hi : i64 s.pos) (hw : sw s ≤ 10000000) (hT : P10 w) :
    Calls Tryd.prog 26 #[stV s] w fun e w' => e = .returned (.string (txt s.txt)) ∧ Below w.heap.size w w' := by
  have HM := Lib.hid hs
  have hm := may_of hs
  obtain ⟨T, hT1⟩ : ∃ T, T = txt s.text := ⟨_, rfl⟩
  obtain ⟨U, hU⟩ : ∃ U, U = txt s.id := ⟨_, rfl⟩
  obtain ⟨S1, HS1⟩ : ∃ S, Hid (S = txt (hide s.text)) := ⟨_, Lib.hid rfl⟩
  obtain ⟨S2, HS2⟩ : ∃ S, Hid (S = txt (hide s.id)) := ⟨_, Lib.hid rfl⟩
  obtain ⟨S3, HS3⟩ : ∃ S, Hid (S = txt (digs s.pos.toNat)) := ⟨_, Lib.hid rfl⟩
  have z1 : S1.size ≤ 30000000 := by rw [HS1.out, txt_size]; have := hide_le s.text; unfold sw at hw; omega
  have z2 : S2.size ≤ 30000000 := by rw [HS2.out, txt_size]; have := hide_le s.id; unfold sw at hw; omega
  obtain ⟨W1, hW1⟩ : ∃ W, W = w.alloc (stO s) := ⟨_, rfl⟩
  have HB1 := Lib.hid (show Below w.heap.size w W1 from by rw [hW1]; exact below_new ..)
  have HX := Lib.hid (show Bx W1 w.heap.size (.int .u8 s.kind) (.string T) (.string U) (.int .i64 s.pos) from by rw [hW1, hT1, hU]; exact Bx.new ..)
  have CT := Lib.hid (fun w' => spelt_any (s := T) w' hT1 (by unfold sw at hw; omega))
  have CU := Lib.hid (fun w' => spelt_any (s := U) w' hU (by unfold sw at hw; omega))
  have CI := Lib.hid (fun (w' : World) (h : Below w.heap.size w w') => itoa_any (p := s.pos) w' hm.2.1 hi.2 (hT.up h))
  rw [← HS1.out] at CT
  rw [← HS2.out] at CU
  rw [← HS3.out] at CI
  have hk : s.kind ≤ 2 := hm.1
  obtain ⟨R, hR⟩ : ∃ R, R = s.txt := ⟨_, rfl⟩
  have HR := Lib.hid hR
  have HW1 := Lib.hid (show W1 = w.alloc (.cells #[.int .u8 s.kind, .string T, .string U, .int .i64 s.pos] 32) by rw [hW1, hT1, hU])
  have HP := Lib.hid hi
  unfold stV
  rw [← hT1, ← hU, ← hR]
  obtain ⟨p, hp⟩ : ∃ p : Int, p = s.pos := ⟨_, rfl⟩
  rw [← hp] at CI HX HW1 ⊢
  clear hs hi hw hT hm hT1 hU hW1 hR hp
  rcases (show s.kind = 0 ∨ s.kind = 1 ∨ s.kind = 2 by omega) with k | k | k
  · have k1 : ((s.kind : Int) == 1) = false := by simp [k]
    have k2 : ((s.kind : Int) == 2) = false := by simp [k]
    have HE := Lib.hid (show txt R = ⟨#[47]⟩ ++ S1 by rw [HR.out, txt_key k, HS1.out, show (⟨#[47]⟩ : ByteArray) = txt [47] from rfl, txt_app]; rfl)
    clear k
    go_enter Tryd.func26, Tryd.ntmps26
    go_upto_region 1 with fail
    rw [← HW1.out]
    obtain ⟨h, hh⟩ : ∃ h, h = w.heap.size := ⟨_, rfl⟩
    rw [← hh] at HX ⊢
    obtain ⟨x0, x1, x2, x3⟩ : W1.cell? ⟨h, 0, none⟩ = some (.int .u8 s.kind) ∧ W1.cell? ⟨h, 1, none⟩ = some (.string T) ∧ W1.cell? ⟨h, 2, none⟩ = some (.string U) ∧ W1.cell? ⟨h, 3, none⟩ = some (.int .i64 p) := ⟨HX.out.c0, HX.out.c1, HX.out.c2, HX.out.c3⟩
    clear hh
    go_wp2_with fail
    refine (CT.out _).mono ?_
    rintro e w2 ⟨rfl, hb⟩
    go_wp2_with fail
    go_ret
    exact ⟨ret_str HE.out.symm, below_tr HB1.out hb⟩
  · have k1 : ((s.kind : Int) == 1) = true := by simp [k]
    have HE := Lib.hid (show txt R = ⟨#[91]⟩ ++ S3 ++ ⟨#[93]⟩ by rw [HR.out, txt_at k, HS3.out, show (⟨#[91]⟩ : ByteArray) = txt [91] from rfl, show (⟨#[93]⟩ : ByteArray) = txt [93] from rfl, txt_app, txt_app]; rfl)
    have z3 : S3.size ≤ 21 := by
      rw [HS3.out, txt_size, digs_dec]
      have h9 := Lib.itoa_length_le ((s.pos.toNat : Nat) : Int) (by omega) (by have := HP.out.2; omega)
      rw [Lib.itoa_nonneg] at h9; exact h9
    clear k
    go_enter Tryd.func26, Tryd.ntmps26
    go_upto_region 1 with fail
    rw [← HW1.out]
    obtain ⟨h, hh⟩ : ∃ h, h = w.heap.size := ⟨_, rfl⟩
    rw [← hh] at HX ⊢
    obtain ⟨x0, x1, x2, x3⟩ : W1.cell? ⟨h, 0, none⟩ = some (.int .u8 s.kind) ∧ W1.cell? ⟨h, 1, none⟩ = some (.string T) ∧ W1.cell? ⟨h, 2, none⟩ = some (.string U) ∧ W1.cell? ⟨h, 3, none⟩ = some (.int .i64 p) := ⟨HX.out.c0, HX.out.c1, HX.out.c2, HX.out.c3⟩
    clear hh
    go_wp2_with fail
    refine (CI.out _ HB1.out).mono ?_
    rintro e w2 ⟨rfl, hb⟩
    go_wp2_with fail
    go_ret
    exact ⟨ret_str HE.out.symm, below_tr HB1.out hb⟩
  · have k1 : ((s.kind : Int) == 1) = false := by simp [k]
    have k2 : ((s.kind : Int) == 2) = true := by simp [k]
    have HE := Lib.hid (show txt R = ⟨#[91]⟩ ++ S1 ++ ⟨#[61]⟩ ++ S2 ++ ⟨#[93]⟩ by rw [HR.out, txt_id k, HS1.out, HS2.out, show (⟨#[91]⟩ : ByteArray) = txt [91] from rfl, show (⟨#[61]⟩ : ByteArray) = txt [61] from rfl, show (⟨#[93]⟩ : ByteArray) = txt [93] from rfl, txt_app, txt_app, txt_app, txt_app]; simp)
    clear k
    go_enter Tryd.func26, Tryd.ntmps26
    go_upto_region 1 with fail
    rw [← HW1.out]
    obtain ⟨h, hh⟩ : ∃ h, h = w.heap.size := ⟨_, rfl⟩
    rw [← hh] at HX ⊢
    obtain ⟨x0, x1, x2, x3⟩ : W1.cell? ⟨h, 0, none⟩ = some (.int .u8 s.kind) ∧ W1.cell? ⟨h, 1, none⟩ = some (.string T) ∧ W1.cell? ⟨h, 2, none⟩ = some (.string U) ∧ W1.cell? ⟨h, 3, none⟩ = some (.int .i64 p) := ⟨HX.out.c0, HX.out.c1, HX.out.c2, HX.out.c3⟩
    have J1 := fun q : Kept W1 => q.cell x1
    have J2 := fun q : Kept W1 => q.cell x2
    clear hh
    go_upto_region 5 with fail
    clear x0 x1 x2 x3
    refine reg_lit (C := fun wx => ∃ s : Kept W1, wx = s.wx) (by kernel_rfl) (by kernel_rfl) ⟨⟨_, (Below.refl _ _).drew⟩, rfl⟩ ?_
    iterate 2 (go_big_quiet_step (fail))
    go_big_quiet_want
    go_big_quiet_op
    refine ⟨.string S1, fun q => (CT.out q.wx).mono ?_, ?_⟩
    · rintro e w3 ⟨rfl, hb⟩; exact Kept.out hb
    go_big_quiet_on
    iterate 4 (go_big_quiet_step (fail))
    go_big_quiet_want
    go_big_quiet_op
    refine ⟨.string S2, fun q => (CU.out q.wx).mono ?_, ?_⟩
    · rintro e w3 ⟨rfl, hb⟩; exact Kept.out hb
    go_big_quiet_on
    iterate 3 (go_big_quiet_step (fail))
    refine wpQuiet_nil ?_
    rintro wc ⟨⟨wx, ox0⟩, e⟩
    have HC := Lib.hid (show Below W1.heap.size W1 wc from by rw [e]; exact ox0)
    clear e ox0 J1 J2
    go_wp2_with fail
    go_ret
    exact ⟨ret_str HE.out.symm, below_tr HB1.out HC.out⟩
end Pa
end Go.Proofs.YtoebhnhiljlljaaDoor
