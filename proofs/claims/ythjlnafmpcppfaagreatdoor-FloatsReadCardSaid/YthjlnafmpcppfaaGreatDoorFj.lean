/- What landed: digits with marks, an integer's text. -/
import Derived.Test.YthjlnafmpcppfaaGreatDoorFi
namespace Go.Proofs.YthjlnafmpcppfaaGreatDoor
open Go.RowKit
namespace Fl

theorem sp_at {l : List UInt8} {k : Nat} (h : k < l.length) (p : Bool) : sp p (l.drop k) = if bt l k = 95 then p && sp false (l.drop (k + 1)) else nmr (bt l k) && sp true (l.drop (k + 1)) := by
  have hb : bt l k = ((l[k]).toNat : Int) := by simp [bt, h]
  rw [List.drop_eq_getElem_cons h, sp]
  have e : (l[k] = 95) ↔ bt l k = 95 := by
    rw [hb]
    exact ⟨fun e => by rw [e]; rfl, fun e => UInt8.toNat_inj.1 (show (l[k]).toNat = 95 by omega)⟩
  by_cases h95 : bt l k = 95
  · rw [if_pos (e.2 h95), if_pos h95]
  · rw [if_neg (fun g => h95 (e.1 g)), if_neg h95, hb]; rfl
def SpL (l : List UInt8) (k : Nat) (y : Int) : Prop := k ≤ l.length ∧ sp false l = sp (decide (y ≠ 95)) (l.drop k)
set_option maxHeartbeats 4000000 in
set_option maxRecDepth 100000 in
theorem spaced_is {l : List UInt8} {s : ByteArray} {x : Bool} (w : World) (hs : s = txt l) (hl : l.length ≤ 100000) (hx : x = sp false l) :
    Calls Tryz.prog 63 #[.string s] w fun e w' => e = .returned (.bool x) ∧ w = w' := by
  have HS := Lib.hid hs
  have HZ := Lib.hid (show s.size = l.length by rw [hs, txt_size])
  have hsz : s.size ≤ 100000 := by rw [HZ.out]; exact hl
  have HX := Lib.hid hx
  have R0 : Hid (SpL l 0 95) := Lib.hid ⟨Nat.zero_le _, rfl⟩
  clear hs hl hx
  go_enter Tryz.func63, Tryz.ntmps63
  go_wp2_with fail
  go_loop [3, 8] (fun v i => ∃ (k : Nat) (y : Int), i = .int .i64 k ∧ v = .int .u8 y ∧ Hid (SpL l k y)) (fun _ i => s.size - (intOf i).toNat)
  case atStart => exact ⟨0, 95, rfl, rfl, R0⟩
  case round =>
    obtain ⟨k, y, rfl, rfl, HR⟩ := hrel
    clear R0
    by_cases hlt : k < s.size
    · have hkr : k < l.length := by rw [← HZ.out]; exact hlt
      have hx := txt_at HS.out (k := k)
      have E0 := HR.out.2.trans (sp_at hkr _)
      obtain ⟨z, hz⟩ : ∃ z, z = bt l k := ⟨_, rfl⟩
      rw [← hz] at hx E0
      have HZZ := Lib.hid hz
      clear hz
      by_cases h95 : z = 95
      · rw [if_pos h95] at E0
        have HE0 := Lib.hid E0
        clear E0
        subst h95
        by_cases hy : y = 95
        · have F := Lib.hid (show x = false by rw [HX.out, HE0.out, hy]; rfl)
          subst hy
          go_wp2_with fail
          go_ret
          exact ⟨ret_bool (by rw [F.out]), rfl⟩
        · have hyi : (y == 95) = false := by simp [hy]
          have F : Hid (SpL l (k + 1) 95) := Lib.hid ⟨hkr, by rw [HE0.out, decide_eq_true hy]; rfl⟩
          go_wp2_with fail
          go_round
          case rel => exact ⟨k + 1, 95, by go_num, rfl, F⟩
          case measure => simp [intOf]; omega
      · rw [if_neg h95] at E0
        have HE0 := Lib.hid E0
        clear E0
        have hzi : (z == 95) = false := by simp [h95]
        by_cases g1 : z < 48
        · have F := Lib.hid (show x = false by rw [HX.out, HE0.out, nmr_no (.inl g1)]; rfl)
          go_wp2_with fail
          go_ret
          exact ⟨ret_bool (by rw [F.out]), rfl⟩
        · by_cases g2 : 57 < z
          · have F := Lib.hid (show x = false by rw [HX.out, HE0.out, nmr_no (.inr g2)]; rfl)
            go_wp2_with fail
            go_ret
            exact ⟨ret_bool (by rw [F.out]), rfl⟩
          · have hn : nmr z = true := by simp [nmr]; omega
            have F : Hid (SpL l (k + 1) z) := Lib.hid ⟨hkr, by rw [HE0.out, hn, decide_eq_true h95]; rfl⟩
            clear hn
            go_wp2_with fail
            go_round
            case rel => exact ⟨k + 1, z, by go_num, rfl, F⟩
            case measure => simp [intOf]; omega
    · have F := Lib.hid (show x = decide (y ≠ 95) by
        rw [HX.out, HR.out.2, List.drop_eq_nil_of_le (by rw [← HZ.out]; omega)]; rfl)
      go_wp2_with fail
      go_ret
      exact ⟨ret_bool (by rw [F.out]; by_cases h : y = 95 <;> simp [h]), rfl⟩
/-- The codes that tell an integer's text. -/
theorem code_good (d : List UInt8) : ∃ T c, II.irv (II.In.rd (43 :: d)) = .tuple #[.string T, .int .i64 c] ∧ II.In.good 10 d = (decide (c = 0) || decide (c = 8)) ∧ (c = 0 ∨ c = 3 ∨ c = 8) := by
  have e : II.In.rd (43 :: d) = II.In.body 10 false d := rfl
  rw [e]
  cases hg : II.In.good 10 d
  · rw [II.In.body_bad hg]
    exact ⟨_, 3, rfl, rfl, .inr (.inl rfl)⟩
  · obtain ⟨v, _, hv, _⟩ := II.In.body_good (m := false) hg
    rw [hv, II.In.fin_some]
    split
    · exact ⟨_, 0, rfl, rfl, .inl rfl⟩
    · exact ⟨_, 8, rfl, rfl, .inr (.inr rfl)⟩
theorem integer_is {l : List UInt8} {s : ByteArray} {x : Bool} (w : World) (hs : s = txt l) (hl : l.length ≤ 90000) (hx : x = II.In.good 10 l) (hT : II.Tab w) :
    Calls Tryz.prog 64 #[.string s] w fun e w' => e = .returned (.bool x) ∧ Below w.heap.size w w' := by
  obtain ⟨T, c, hc, hg, hcc⟩ := code_good l
  obtain ⟨S, hS⟩ : ∃ S, S = (⟨#[43]⟩ : ByteArray) ++ s := ⟨_, rfl⟩
  have hz : s.size ≤ 90000 := by rw [hs, txt_size]; exact hl
  have C := Lib.hid (fun w h => II.pread_is (l := 43 :: l) (s := S) w (by rw [hS, hs, show (⟨#[43]⟩ : ByteArray) = txt [43] from rfl, txt_app]; rfl) (by simp; omega) rfl h)
  rw [hc] at C
  have HS := Lib.hid hS
  have HT := Lib.hid hT
  have HX := Lib.hid (hx.trans hg)
  clear hs hl hx hc hg hS hT
  have KEY : ∀ (c' : Int) (x' : Bool), c = c' → x = x' → (c' = 0 ∧ x' = true ∨ c' = 3 ∧ x' = false ∨ c' = 8 ∧ x' = true) → Calls Tryz.prog 64 #[.string s] w fun e w' => e = .returned (.bool x) ∧ Below w.heap.size w w' := by
    intro c' x' e1 e2 h
    subst e1 e2
    clear HX hcc
    rcases h with ⟨rfl, rfl⟩ | ⟨rfl, rfl⟩ | ⟨rfl, rfl⟩
    all_goals
      go_enter Tryz.func64, Tryz.ntmps64
      go_wp2_with (go_at_call 18; rw [← HS.out]; refine (C.out _ HT.out).mono ?_; rintro e w1 ⟨rfl, hb⟩)
      go_ret
      exact ⟨rfl, hb⟩
  rcases hcc with rfl | rfl | rfl
  · exact KEY 0 true rfl HX.out (.inl ⟨rfl, rfl⟩)
  · exact KEY 3 false rfl HX.out (.inr (.inl ⟨rfl, rfl⟩))
  · exact KEY 8 true rfl HX.out (.inr (.inr ⟨rfl, rfl⟩))
end Fl
end Go.Proofs.YthjlnafmpcppfaaGreatDoor
