/- The reader's opening, and line's ends (TOML). -/
import Derived.Test.YtbeefjhcbphiaaaGreatDoorHe
import Derived.Test.YtbeefjhcbphiaaaGreatDoorHg
namespace Go.Proofs.YtbeefjhcbphiaaaGreatDoor
open Go.RowKit

section
variable {W w : World} {b : Nat} {K : Kd} {s : ByteArray} {p : Nat} {t l : List UInt8}
theorem topen_any (h : TR W b K s w p t) (hs : s = txt l) (hl : l.length ≤ 1000000) (hB : tkC l p K.m = true) :
    Calls Tryz.prog 268 #[.pointer (some ⟨b, 0, none⟩)] w fun e w' => e = .returned (.tuple #[]) ∧ TR W b K s w' ((p + 1 : Nat) : Int) t := by
  have HR := Lib.hid h
  have HS := Lib.hid hs
  have HL := Lib.hid hl
  have HB := Lib.hid hB
  obtain ⟨_, _, v, h3, _⟩ := h
  obtain ⟨c0, c1, c2, c3, cf⟩ := td_cells h3
  clear hs hl hB h3 cf c0 c1 c3
  go_enter Tryz.func268, Tryz.ntmps268
  go_wp2_with fail
  refine (ttake_y K.m HR.out HS.out HL.out HB.out).mono ?_
  rintro e w1 ⟨rfl, R1⟩
  have HR1 := Lib.hid R1
  clear R1
  go_wp2_with fail
  refine bodyPost_end (results_none Tryz.results268 _ _ _) rfl ?_
  exact ⟨rfl, HR1.out⟩
theorem tlineEnd_any (h : TR W b K s w p t) (hs : s = txt l) (hl : l.length ≤ 1000000) (hp : p ≤ l.length) {B : Bool} (hB : B = leB l p) :
    Calls Tryz.prog 269 #[.pointer (some ⟨b, 0, none⟩)] w fun e w' => e = .returned (.bool B) ∧ TR W b K s w' ((leP l p : Nat) : Int) t := by
  have HR := Lib.hid h
  have HS := Lib.hid hs
  have HL := Lib.hid hl
  have HP := Lib.hid hp
  obtain ⟨e1, e2⟩ := le_tk l p
  rw [← hB] at e1 e2
  have HB := Lib.hid e1
  have HE := Lib.hid e2
  clear h hs hl hp hB e1 e2
  cases h13 : tkC l p 13
  · have H := Lib.hid h13
    have HB1 : Hid (tkC l p 10 = B) := by have := HB.out; rw [h13] at this; exact this.symm
    have HE1 : Hid (leP l p = if B = true then p + 1 else p) := by have := HE.out; rw [h13] at this; exact this
    clear h13 HB HE
    go_enter Tryz.func269, Tryz.ntmps269
    go_wp2_with fail
    refine (ttake_n 13 HR.out HS.out HL.out HP.out H.out).mono ?_
    rintro e w1 ⟨rfl, R1⟩
    have HR1 := Lib.hid R1
    clear R1
    go_wp2_with fail
    refine (ttake_any HR1.out HS.out HL.out HP.out 10 HB1.out.symm).mono ?_
    rintro e w2 ⟨rfl, R2⟩
    have HR2 := Lib.hid R2
    clear R2
    go_wp2_with fail
    go_ret
    exact ⟨rfl, by rw [HE1.out]; exact HR2.out⟩
  · have H := Lib.hid h13
    have HQ := Lib.hid (tkC_lt h13)
    have HB1 : Hid (tkC l (p + 1) 10 = B) := by have := HB.out; rw [h13] at this; exact this.symm
    have HE1 : Hid (leP l p = if B = true then p + 1 + 1 else p + 1) := by have := HE.out; rw [h13] at this; exact this
    clear h13 HB HE
    go_enter Tryz.func269, Tryz.ntmps269
    go_wp2_with fail
    refine (ttake_y 13 HR.out HS.out HL.out H.out).mono ?_
    rintro e w1 ⟨rfl, R1⟩
    have HR1 := Lib.hid R1
    clear R1
    go_wp2_with fail
    refine (ttake_any HR1.out HS.out HL.out HQ.out 10 HB1.out.symm).mono ?_
    rintro e w2 ⟨rfl, R2⟩
    have HR2 := Lib.hid R2
    clear R2
    go_wp2_with fail
    go_ret
    exact ⟨rfl, by rw [HE1.out]; exact HR2.out⟩
end
end Go.Proofs.YtbeefjhcbphiaaaGreatDoor
/- The long strings' opening, and the marks that may be their end (TOML). -/
namespace Go.Proofs.YtbeefjhcbphiaaaGreatDoor
open Go.RowKit

theorem leB_has (l : List UInt8) (q : Nat) : leB l q = (hasP (l.drop q) [10] || hasP (l.drop q) [13, 10]) := by
  unfold leB
  generalize l.drop q = m
  match m with
  | [] => rfl
  | c :: r =>
    by_cases h1 : c = 10
    · subst h1; simp [Tq.fd, hasP]
    · by_cases h2 : c = 13
      · subst h2
        match r with
        | [] => rfl
        | d :: r =>
          by_cases h3 : d = 10
          · subst h3; simp [Tq.fd, hasP]
          · have : Tq.fd (13 :: d :: r) = none := by unfold Tq.fd; split <;> simp_all
            rw [this]; simp [hasP, h3]
      · have : Tq.fd (c :: r) = some 0 := by unfold Tq.fd; split <;> simp_all
        rw [this]; simp [hasP, h1, h2]
/-- Where a long string's text begins. -/
def loP (l : List UInt8) (p : Nat) : Nat := if leB l (p + 3) = true then leP l (p + 3) else p + 3
theorem rnl_tkC (q : UInt8) (l : List UInt8) (p : Nat) : Tq.rnl q (l.drop p) = if tkC l p q.toNat = true then Tq.rnl q (l.drop (p + 1)) + 1 else 0 := by
  cases h : tkC l p q.toNat with
  | true => rw [tkC_drop h]; simp [Tq.rnl]
  | false =>
    rcases tkC_not h with e | ⟨d, e, n, _⟩
    · rw [e]; rfl
    · rw [e]; simp [Tq.rnl, n]
section
variable {W w : World} {b : Nat} {K : Kd} {s : ByteArray} {p : Nat} {t l : List UInt8}
set_option maxHeartbeats 4000000 in
set_option maxRecDepth 100000 in
theorem tlongopen_any (h : TR W b K s w p t) (hs : s = txt l) (hl : l.length ≤ 1000000) (h0 : tkC l p K.m = true) (h1 : tkC l (p + 1) K.m = true) (h2 : tkC l (p + 2) K.m = true) :
    Calls Tryz.prog 262 #[.pointer (some ⟨b, 0, none⟩)] w fun e w' => e = .returned (.tuple #[]) ∧ TR W b K s w' ((loP l p : Nat) : Int) t := by
  have R0 := h
  have HS := Lib.hid hs
  have HL := Lib.hid hl
  have H0 := Lib.hid h0
  have H1 := Lib.hid h1
  have H2 := Lib.hid h2
  have HP3 := Lib.hid (tkC_lt h2)
  have hsz : s.size = l.length := by rw [hs, txt_size]
  have HZ := Lib.hid hsz
  clear hs hl h0 h1 h2 h hsz
  go_enter Tryz.func262, Tryz.ntmps262
  go_wp2_with fail
  go_loopw [2] (fun v wr => ∃ k : Nat, k ≤ 3 ∧ v = .int .i64 k ∧ TR W b K s wr ((p + k : Nat) : Int) t) (fun v _ => 3 - (intOf v).toNat)
  case atStart => exact ⟨0, by omega, rfl, R0⟩
  case round =>
    obtain ⟨k, hk, rfl, R⟩ := hrel
    clear R0
    have HR := Lib.hid R
    clear R
    rcases (show k = 0 ∨ k = 1 ∨ k = 2 ∨ k = 3 by omega) with rfl | rfl | rfl | rfl
    · go_wp2_with fail
      refine (topen_any HR.out HS.out HL.out H0.out).mono ?_
      rintro e w1 ⟨rfl, R1⟩
      have HR1 := Lib.hid R1
      clear R1
      go_wp2_with fail
      go_roundw
      case rel => exact ⟨1, by omega, by go_num, HR1.out⟩
      case measure => simp [intOf]
    · go_wp2_with fail
      refine (topen_any HR.out HS.out HL.out H1.out).mono ?_
      rintro e w1 ⟨rfl, R1⟩
      have HR1 := Lib.hid R1
      clear R1
      go_wp2_with fail
      go_roundw
      case rel => exact ⟨2, by omega, by go_num, HR1.out⟩
      case measure => simp [intOf]
    · go_wp2_with fail
      refine (topen_any HR.out HS.out HL.out H2.out).mono ?_
      rintro e w1 ⟨rfl, R1⟩
      have HR1 := Lib.hid R1
      clear R1
      go_wp2_with fail
      go_roundw
      case rel => exact ⟨3, by omega, by go_num, HR1.out⟩
      case measure => simp [intOf]
    · obtain ⟨q, HQ⟩ : ∃ q, Hid (q = p + 3) := ⟨_, rfl⟩
      have HR3 : Hid (TR W b K s wr (q : Int) t) := by rw [HQ.out]; exact HR.out
      have hpe : ((p + 3 : Nat) : Int) = q := by rw [HQ.out]
      have hqs : q ≤ s.size := by rw [HZ.out, HQ.out]; exact HP3.out
      have hs1 : s.size ≤ 1000000 := by rw [HZ.out]; exact HL.out
      have HU := Lib.hid (show s.extract q s.size = txt (l.drop q) by rw [HS.out, txt_cut, txt_size, List.take_length])
      have HDL := Lib.hid (show (l.drop q).length ≤ 1000000 by have := HL.out; simp; omega)
      have HLB := Lib.hid (leB_has l q)
      obtain ⟨_, _, v, h3, _⟩ := HR3.out
      obtain ⟨c0, c1, c2, c3, cf⟩ := td_cells h3
      obtain ⟨x, HX⟩ : ∃ x, Hid (x = hasP (l.drop q) [10]) := ⟨_, rfl⟩
      obtain ⟨y, HY⟩ : ∃ y, Hid (y = hasP (l.drop q) [13, 10]) := ⟨_, rfl⟩
      clear h3 cf c2 c3
      cases x
      · cases y
        · have HB := Lib.hid (show leB l q = false by rw [HLB.out, ← HX.out, ← HY.out]; rfl)
          go_wp2_with fail
          go_quiet (first
            | (go_at_call 39; refine (hasP_any _ HU.out (show (⟨#[10]⟩ : ByteArray) = txt [10] from rfl) HDL.out (by simp) HX.out).mono ?_; rintro _ _ ⟨rfl, rfl⟩; exact ⟨rfl, _, rfl⟩)
            | (go_at_call 39; refine (hasP_any _ HU.out (show (⟨#[13, 10]⟩ : ByteArray) = txt [13, 10] from rfl) HDL.out (by simp) HY.out).mono ?_; rintro _ _ ⟨rfl, rfl⟩; exact ⟨rfl, _, rfl⟩))
          go_wp2_with fail
          refine bodyPost_end (results_none Tryz.results262 _ _ _) rfl ?_
          exact ⟨rfl, by rw [loP, ← HQ.out, if_neg (by rw [HB.out]; decide)]; exact HR3.out.drewN _⟩
        · have HB := Lib.hid (show leB l q = true by rw [HLB.out, ← HX.out, ← HY.out]; rfl)
          go_wp2_with fail
          go_quiet (first
            | (go_at_call 39; refine (hasP_any _ HU.out (show (⟨#[10]⟩ : ByteArray) = txt [10] from rfl) HDL.out (by simp) HX.out).mono ?_; rintro _ _ ⟨rfl, rfl⟩; exact ⟨rfl, _, rfl⟩)
            | (go_at_call 39; refine (hasP_any _ HU.out (show (⟨#[13, 10]⟩ : ByteArray) = txt [13, 10] from rfl) HDL.out (by simp) HY.out).mono ?_; rintro _ _ ⟨rfl, rfl⟩; exact ⟨rfl, _, rfl⟩))
          go_wp2_with fail
          refine (tlineEnd_any (HR3.out.drewN _) HS.out HL.out (by rw [HQ.out]; exact HP3.out) HB.out.symm).mono ?_
          rintro e w1 ⟨rfl, R1⟩
          have HR1 := Lib.hid R1
          clear R1
          go_wp2_with fail
          refine bodyPost_end (results_none Tryz.results262 _ _ _) rfl ?_
          exact ⟨rfl, by rw [loP, ← HQ.out, if_pos HB.out]; exact HR1.out⟩
      · have HB := Lib.hid (show leB l q = true by rw [HLB.out, ← HX.out]; rfl)
        go_wp2_with fail
        go_quiet (first
          | (go_at_call 39; refine (hasP_any _ HU.out (show (⟨#[10]⟩ : ByteArray) = txt [10] from rfl) HDL.out (by simp) HX.out).mono ?_; rintro _ _ ⟨rfl, rfl⟩; exact ⟨rfl, _, rfl⟩))
        go_wp2_with fail
        refine (tlineEnd_any (HR3.out.drewN _) HS.out HL.out (by rw [HQ.out]; exact HP3.out) HB.out.symm).mono ?_
        rintro e w1 ⟨rfl, R1⟩
        have HR1 := Lib.hid R1
        clear R1
        go_wp2_with fail
        refine bodyPost_end (results_none Tryz.results262 _ _ _) rfl ?_
        exact ⟨rfl, by rw [loP, ← HQ.out, if_pos HB.out]; exact HR1.out⟩
end
end Go.Proofs.YtbeefjhcbphiaaaGreatDoor
