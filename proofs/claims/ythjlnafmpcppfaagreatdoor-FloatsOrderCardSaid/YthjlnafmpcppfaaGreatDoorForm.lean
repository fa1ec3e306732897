/- The program's own normal form in parts, walked. -/
import Derived.Test.YthjlnafmpcppfaaGreatDoorExpo
import Derived.Test.YthjlnafmpcppfaaGreatDoorOrd
import Derived.Lib.TrimByte
import Derived.BigQuiet
import Derived.Deep.QuietTactic
import Derived.Deep.RegionWith
namespace Go.Proofs.YthjlnafmpcppfaaGreatDoor
open Go.RowKit

theorem trimL_B (d : List UInt8) : trimL d = Lib.trimLeftB d 48 := by
  unfold Lib.trimLeftB
  cases d with
  | nil => rw [trimL_end (by simp)]; rfl
  | cons x r =>
    by_cases h : x = 48
    · subst h
      rw [trimL_on (by simp) (by rw [bt_cons]; rfl), List.drop_succ_cons, List.drop_zero, trimL_B r, List.dropWhile_cons, if_pos (by simp)]; rfl
    · rw [trimL_end, List.dropWhile_cons, if_neg (by simp [h])]
      rw [bt_cons]
      intro h2
      exact h (UInt8.toNat_inj.1 (by have := h2.2; simpa using (by omega : x.toNat = 48)))
theorem trimR_B' : ∀ (n : Nat) (d : List UInt8), d.length = n → trimR d = Lib.trimRightB d 48 := by
  intro n
  induction n with
  | zero => intro d hd; obtain rfl := List.length_eq_zero_iff.1 hd; rw [trimR_end (by simp)]; rfl
  | succ n ih =>
    intro d hd
    rcases List.eq_nil_or_concat d with rfl | ⟨r, x, rfl⟩
    · simp at hd
    · rw [List.concat_eq_append] at hd ⊢
      have hr : r.length = n := by simpa using hd
      have hb : bt (r ++ [x]) ((r ++ [x]).length - 1) = (x.toNat : Int) := by
        rw [show (r ++ [x]).length - 1 = r.length by simp, bt_app, bt_cons]
      unfold Lib.trimRightB
      by_cases h : x = 48
      · subst h
        rw [trimR_on (by simp) (by rw [hb]; rfl), show (r ++ [(48 : UInt8)]).take ((r ++ [(48 : UInt8)]).length - 1) = r by simp, ih r hr]
        unfold Lib.trimRightB
        rw [List.reverse_append, List.reverse_singleton, List.singleton_append, List.dropWhile_cons, if_pos (by simp)]
      · rw [trimR_end, List.reverse_append, List.reverse_singleton, List.singleton_append, List.dropWhile_cons, if_neg (by simp [h])]
        · simp
        · rw [hb]
          intro h2
          exact h (UInt8.toNat_inj.1 (by have := h2.2; simpa using (by omega : x.toNat = 48)))
theorem trimR_B (d : List UInt8) : trimR d = Lib.trimRightB d 48 := trimR_B' d.length d rfl
theorem trimL_nil : ∀ {d : List UInt8}, trimL d = [] → ∀ x ∈ d, x = 48
  | [], _, x, hx => by cases hx
  | y :: r, h, x, hx => by
    by_cases hy : y = 48
    · subst hy
      rw [trimL_on (d := 48 :: r) (by simp) (by rw [bt_cons]; rfl), List.drop_succ_cons, List.drop_zero] at h
      rcases List.mem_cons.1 hx with h1 | h1
      · exact h1
      · exact trimL_nil h x h1
    · rw [trimL_end] at h
      · cases h
      · rw [bt_cons]
        intro h2
        exact hy (UInt8.toNat_inj.1 (by have := h2.2; simpa using (by omega : y.toNat = 48)))
theorem kept_nil {d : List UInt8} : trimL (trimR d) = [] ↔ trimR d = [] := by
  refine ⟨fun h => ?_, fun h => by rw [h]; exact trimL_end (by simp)⟩
  have h2 := trimL_nil h
  by_cases h3 : trimR d = []
  · exact h3
  · exfalso
    have h4 := (trimR_spec d).2 h3
    have hl : 0 < (trimR d).length := List.length_pos_iff.2 h3
    have h5 := h2 ((trimR d)[(trimR d).length - 1]) (List.getElem_mem _)
    apply h4
    unfold bt
    rw [List.getD_eq_getElem?_getD, List.getElem?_eq_getElem (by omega), Option.getD_some, h5]; rfl
abbrev fv (m : Bool) (d : ByteArray) (x : Int) : Value := .agg #[.bool m, .string d, .int .i64 x]
abbrev fo (m : Bool) (d : ByteArray) (x : Int) : Obj := .cells #[.bool m, .string d, .int .i64 x] 46
/-- The normal form in parts, of the written parts and what the exponent is. -/
def fmM (K : List UInt8) (a : Bool) : Bool := if K = [] then false else a
def fmD (K : List UInt8) : List UInt8 := if K = [] then [48] else trimL K
def fmX (B C K : List UInt8) (e : Int) : Int := if K = [] then 0 else e - C.length + ((B ++ C).length : Int) - K.length
/-- The world behind it: a draw where there are numerals left. -/
def fmW (w : World) (o o' : Obj) (K : List UInt8) : World := if K = [] then (w.alloc o).alloc o' else ((w.alloc o).alloc o').drew
theorem fmW_nil {w : World} {o o' : Obj} {K : List UInt8} (h : K = []) : fmW w o o' K = (w.alloc o).alloc o' := if_pos h
theorem fmW_some {w : World} {o o' : Obj} {K : List UInt8} (h : K ≠ []) : fmW w o o' K = ((w.alloc o).alloc o').drew := if_neg h
theorem trimRight_is {d : List UInt8} {s t : ByteArray} (hs : s = txt d) (ht : t = txt (trimR d)) (hm : d.length ≤ 2000000) (w : World) :
    Calls Tryz.prog 72 #[.string s, .string ⟨#[48]⟩] w fun e w' => e = .returned (.string t) ∧ w = w' := by
  refine (Tryz.strings_TrimRight_one s 48 (by decide) w (by rw [hs, txt_size]; omega)).mono ?_
  rintro e w' ⟨rfl, rfl⟩
  exact ⟨by rw [ht, trimR_B, hs]; rfl, rfl⟩
theorem trimLeft_is {d : List UInt8} {s t : ByteArray} (hs : s = txt d) (ht : t = txt (trimL d)) (w : World) :
    Calls Tryz.prog 73 #[.string s, .string ⟨#[48]⟩] w fun e w' => e = .returned (.string t) ∧ w' = w := by
  refine (Tryz.strings_TrimLeft_one s 48 (by decide) w).mono ?_
  rintro e w' ⟨rfl, rfl⟩
  exact ⟨by rw [ht, trimL_B, hs]; rfl, rfl⟩
set_option maxHeartbeats 2000000 in
theorem form_any {B C : List UInt8} {a d : Bool} {b c f : ByteArray} (x : Int) (w : World) (hb : b = txt B) (hc : c = txt C) (hB : B.length ≤ 1000000) (hC : C.length ≤ 1000000) (hx1 : -1000000000 ≤ x) (hx2 : x ≤ 1000000000) :
    Calls Tryz.prog 50 #[wv a b c d f, .int .i64 x] w fun e w' => e = .returned (fv (fmM (trimR (B ++ C)) a) (txt (fmD (trimR (B ++ C)))) (fmX B C (trimR (B ++ C)) x)) ∧ ∃ (o o' : Obj), w' = fmW w o o' (trimR (B ++ C)) := by
  have hdl : (B ++ C).length ≤ 2000000 := by simp; omega
  obtain ⟨D, hD⟩ : ∃ D, D = txt (B ++ C) := ⟨_, rfl⟩
  obtain ⟨K, hK⟩ : ∃ K, K = trimR (B ++ C) := ⟨_, rfl⟩
  obtain ⟨k, hk⟩ : ∃ k, k = txt K := ⟨_, rfl⟩
  obtain ⟨t, ht⟩ : ∃ t, t = txt (trimL K) := ⟨_, rfl⟩
  have TR := Lib.hid (fun w => trimRight_is (s := D) (t := k) hD (by rw [hk, hK]) hdl w)
  have TL := Lib.hid (fun w => trimLeft_is (s := k) (t := t) hk ht w)
  have hbc : b ++ c = D := by rw [hb, hc, hD, txt_app]
  have hke : k.toList.isEmpty = K.isEmpty := by rw [hk, txt_list]
  have hk0 : k.size ≤ 2000000 := by rw [hk, txt_size, hK]; have := trimR_len (B ++ C); omega
  have hc0 : c.size ≤ 1000000 := by rw [hc, txt_size]; omega
  have hb0 : b.size ≤ 1000000 := by rw [hb, txt_size]; omega
  have hd0 : D.size ≤ 2000000 := by rw [hD, txt_size]; omega
  have HX := Lib.hid (show K ≠ [] → fmX B C K x = x - c.size + D.size - k.size by intro h; unfold fmX; rw [if_neg h, hc, hD, hk, txt_size, txt_size, txt_size])
  rw [← hK]
  have HT := Lib.hid ht
  have HBC := Lib.hid hbc
  have HKE := Lib.hid hke
  clear hb hc hD hk ht hbc hke hB hC hdl hK
  go_enter Tryz.func50, Tryz.ntmps50
  go_upto_region 2 with fail
  rw [HBC.out]
  go_wp2_with fail
  refine (TR.out _).mono ?_
  rintro e w1 ⟨rfl, rfl⟩
  by_cases hn : K = []
  · have HN := Lib.hid hn
    have he : k.toList.isEmpty = true := by rw [HKE.out, hn]; rfl
    have E1 := Lib.hid (show fmM K a = false by unfold fmM; rw [if_pos hn])
    have E2 := Lib.hid (show fmD K = [48] by unfold fmD; rw [if_pos hn])
    have E3 := Lib.hid (show fmX B C K x = 0 by unfold fmX; rw [if_pos hn])
    clear hn
    go_wp2_with fail
    refine bodyPost_ret (v := fv false ⟨#[48]⟩ 0) (by simp [results, Tryz.results50, go_sem]) rfl ?_
    exact ⟨by rw [E1.out, E2.out, E3.out]; rfl, _, _, (fmW_nil HN.out).symm⟩
  · have HN := Lib.hid hn
    have he : k.toList.isEmpty = false := by rw [HKE.out]; simpa using hn
    have E1 := Lib.hid (show fmM K a = a by unfold fmM; rw [if_neg hn])
    have E2 := Lib.hid (show txt (fmD K) = t by unfold fmD; rw [if_neg hn, HT.out])
    have E3 := Lib.hid (HX.out hn)
    have HW := Lib.hid (show IntKind.i64.wrap (IntKind.i64.wrap (IntKind.i64.wrap (x - c.size) + D.size) - k.size) = x - c.size + D.size - k.size by
      rw [IntWalk.i64_in (x - c.size) (by omega), IntWalk.i64_in (x - c.size + D.size) (by omega), IntWalk.i64_in _ (by omega)])
    clear hn
    go_upto_region 5 with fail
    go_region_with (go_at_call 73; refine (TL.out _).mono ?_; rintro e w2 ⟨rfl, rfl⟩)
    all_goals go_wp2_with fail
    all_goals refine bodyPost_ret (v := fv a t (IntKind.i64.wrap (IntKind.i64.wrap (IntKind.i64.wrap (x - c.size) + D.size) - k.size))) (by simp [results, Tryz.results50, go_sem]) rfl ?_
    all_goals exact ⟨by rw [E1.out, E2.out, E3.out, HW.out], _, _, (fmW_some HN.out).symm⟩
end Go.Proofs.YthjlnafmpcppfaaGreatDoor
