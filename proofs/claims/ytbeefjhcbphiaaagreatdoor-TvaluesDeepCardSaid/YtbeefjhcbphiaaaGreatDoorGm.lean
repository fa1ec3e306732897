/- The program's own written exponent, walked. -/
import Derived.Test.YtbeefjhcbphiaaaGreatDoorGl
import Derived.Test.YtbeefjhcbphiaaaGreatDoorGe
import Derived.Lib.TrimByte
import Derived.BigQuiet
import Derived.Deep.QuietTactic
import Derived.Deep.RegionWith
import Derived.Sort.Grow
import Derived.Deep.RegionHeld3
namespace Go.Proofs.YtbeefjhcbphiaaaGreatDoor.De
open Go.RowKit

/-- The written exponent of numerals, and a minus ahead of them. -/
def exR (P : List UInt8) (d : Bool) : Int × Bool := match powA P P.length 0 0 with
  | none => (0, false)
  | some n => (if d = true then -n else n, true)
theorem powA_mid (l : List UInt8) (i e : Nat) (he : e ≤ l.length) : ∀ (k : Nat) (n : Int), i + k ≤ e → powA ((l.take e).drop i) (e - i) k n = powA l e (i + k) n := by
  intro k n hk
  by_cases h : i + k < e
  · have hb : bt ((l.take e).drop i) k = bt l (i + k) := by rw [bt_drop, bt_take l h]
    by_cases g : 10 * n + (bt l (i + k) - 48) > 1000000000
    · rw [powA_big h g, powA_big (by omega) (by rw [hb]; exact g)]
    · rw [powA_on h g, powA_on (by omega) (by rw [hb]; exact g), hb]
      exact powA_mid l i e he (k + 1) _ (by omega)
  · rw [powA_end h, powA_end (by omega)]
termination_by k => e - (i + k)
theorem exR_is {l : List UInt8} : exR ((l.take (q5 l)).drop (q4 l)) (decide (q4 l < q5 l ∧ bt l (q4 l - 1) = 45)) = powR l (q4 l) (q5 l) := by
  obtain ⟨_, _, _, _, o5, o6, _, _⟩ := q_order (l := l)
  have hl : ((l.take (q5 l)).drop (q4 l)).length = q5 l - q4 l := by simp; omega
  unfold exR powR
  rw [hl, powA_mid l (q4 l) (q5 l) o6 0 0 (by omega), Nat.add_zero]
  cases powA l (q5 l) (q4 l) 0 with
  | none => rfl
  | some n => simp only [decide_eq_true_eq]
abbrev wv (a : Bool) (b c : ByteArray) (d : Bool) (f : ByteArray) : Value := .agg #[.bool a, .string b, .string c, .bool d, .string f]
theorem ret_ib2 {a b : Int} {p q : Bool} (h : (a, p) = (b, q)) : Ending.returned (.tuple #[.int .i64 a, .bool p]) = .returned (.tuple #[.int .i64 b, .bool q]) := by cases h; rfl
set_option maxHeartbeats 1000000 in
theorem expo_any {P : List UInt8} {a d : Bool} {b c f : ByteArray} (w : World) (hf : f = txt P) (hP : ∀ k, k < P.length → nmr (bt P k) = true) (hm : P.length ≤ 1000000) :
    Calls Tryz.prog 209 #[wv a b c d f] w fun e w' => e = .returned (.tuple #[.int .i64 (exR P d).1, .bool (exR P d).2]) ∧ w' = w.alloc (wrt a b c d f) := by
  have HZ := Lib.hid (show f.size = P.length by rw [hf, txt_size])
  have HS := Lib.hid hf
  have HN := Lib.hid hP
  have hsz : f.size ≤ 1000000 := by have := HZ.out; omega
  clear hf hP hm
  go_enter Tryz.func209, Tryz.ntmps209
  go_wp2_with fail
  go_loop [2, 8] (fun m j => ∃ (n : Int) (k : Nat), k ≤ f.size ∧ 0 ≤ n ∧ n ≤ 1000000000 ∧ m = .int .i64 n ∧ j = .int .i64 k ∧ powA P P.length 0 0 = powA P P.length k n) (fun _ j => f.size - (intOf j).toNat)
  case atStart => exact ⟨0, 0, Nat.zero_le _, by omega, by omega, rfl, rfl, rfl⟩
  case round =>
    obtain ⟨n, k, hk, hn1, hn2, rfl, rfl, hr⟩ := hrel
    have HR := Lib.hid hr
    clear hr
    by_cases hlt : k < f.size
    · have hx := txt_at HS.out (k := k)
      have hnm := HN.out k (by have := HZ.out; omega)
      have h48 : 48 ≤ bt P k ∧ bt P k ≤ 57 := by simpa [nmr] using hnm
      clear hnm
      by_cases hbig : 10 * n + (bt P k - 48) > 1000000000
      · have E := Lib.hid (show exR P d = (0, false) by unfold exR; rw [HR.out, powA_big (by have := HZ.out; omega) hbig])
        go_wp2_with fail
        refine bodyPost_ret (v := .tuple #[.int .i64 0, .bool false]) (by simp [results, Tryz.results209, go_sem]) rfl ?_
        exact ⟨ret_ib2 (by rw [E.out]), rfl⟩
      · have E := Lib.hid (powA_on (l := P) (e := P.length) (by have := HZ.out; omega) hbig)
        go_wp2_with fail
        go_round
        case rel => exact ⟨10 * n + (bt P k - 48), k + 1, by omega, by omega, by omega, by go_num, by go_num, by rw [HR.out, E.out]⟩
        case measure => simp [intOf]; omega
    · have E := Lib.hid (show exR P d = (if d = true then -n else n, true) by unfold exR; rw [HR.out, powA_end (by have := HZ.out; omega)])
      cases d
      · go_wp2_with fail
        refine bodyPost_ret (v := .tuple #[.int .i64 n, .bool true]) (by simp [results, Tryz.results209, go_sem]) rfl ?_
        exact ⟨ret_ib2 (by rw [E.out]; rfl), rfl⟩
      · go_wp2_with fail
        refine bodyPost_ret (v := .tuple #[.int .i64 (-n), .bool true]) (by simp [results, Tryz.results209, go_sem]) rfl ?_
        exact ⟨ret_ib2 (by rw [E.out]; rfl), rfl⟩
end Go.Proofs.YtbeefjhcbphiaaaGreatDoor.De
/- The program's own normal form in parts, walked. -/
namespace Go.Proofs.YtbeefjhcbphiaaaGreatDoor.De
open Go.RowKit

theorem trimL_B (d : List UInt8) : trimL d = Lib.trimLeftB d 48 := by
  unfold Lib.trimLeftB
  cases d with
  | nil => rw [trimL_end (by simp)]; rfl
  | cons x r =>
    by_cases h : x = 48
    · subst h
      rw [trimL_on (by simp) (by rw [bt_cons]; rfl), List.drop_succ_cons, List.drop_zero, trimL_B r, List.dropWhile_cons, if_pos (by simp)]; rfl
    · rw [trimL_end, List.dropWhile_cons, if_neg (by simp [h])]
      rw [bt_cons]
      intro h2
      exact h (UInt8.toNat_inj.1 (by have := h2.2; simpa using (by omega : x.toNat = 48)))
theorem trimR_B' : ∀ (n : Nat) (d : List UInt8), d.length = n → trimR d = Lib.trimRightB d 48 := by
  intro n
  induction n with
  | zero => intro d hd; obtain rfl := List.length_eq_zero_iff.1 hd; rw [trimR_end (by simp)]; rfl
  | succ n ih =>
    intro d hd
    rcases List.eq_nil_or_concat d with rfl | ⟨r, x, rfl⟩
    · simp at hd
    · rw [List.concat_eq_append] at hd ⊢
      have hr : r.length = n := by simpa using hd
      have hb : bt (r ++ [x]) ((r ++ [x]).length - 1) = (x.toNat : Int) := by
        rw [show (r ++ [x]).length - 1 = r.length by simp, bt_app, bt_cons]
      unfold Lib.trimRightB
      by_cases h : x = 48
      · subst h
        rw [trimR_on (by simp) (by rw [hb]; rfl), show (r ++ [(48 : UInt8)]).take ((r ++ [(48 : UInt8)]).length - 1) = r by simp, ih r hr]
        unfold Lib.trimRightB
        rw [List.reverse_append, List.reverse_singleton, List.singleton_append, List.dropWhile_cons, if_pos (by simp)]
      · rw [trimR_end, List.reverse_append, List.reverse_singleton, List.singleton_append, List.dropWhile_cons, if_neg (by simp [h])]
        · simp
        · rw [hb]
          intro h2
          exact h (UInt8.toNat_inj.1 (by have := h2.2; simpa using (by omega : x.toNat = 48)))
theorem trimR_B (d : List UInt8) : trimR d = Lib.trimRightB d 48 := trimR_B' d.length d rfl
theorem trimL_nil : ∀ {d : List UInt8}, trimL d = [] → ∀ x ∈ d, x = 48
  | [], _, x, hx => by cases hx
  | y :: r, h, x, hx => by
    by_cases hy : y = 48
    · subst hy
      rw [trimL_on (d := 48 :: r) (by simp) (by rw [bt_cons]; rfl), List.drop_succ_cons, List.drop_zero] at h
      rcases List.mem_cons.1 hx with h1 | h1
      · exact h1
      · exact trimL_nil h x h1
    · rw [trimL_end] at h
      · cases h
      · rw [bt_cons]
        intro h2
        exact hy (UInt8.toNat_inj.1 (by have := h2.2; simpa using (by omega : y.toNat = 48)))
theorem kept_nil {d : List UInt8} : trimL (trimR d) = [] ↔ trimR d = [] := by
  refine ⟨fun h => ?_, fun h => by rw [h]; exact trimL_end (by simp)⟩
  have h2 := trimL_nil h
  by_cases h3 : trimR d = []
  · exact h3
  · exfalso
    have h4 := (trimR_spec d).2 h3
    have hl : 0 < (trimR d).length := List.length_pos_iff.2 h3
    have h5 := h2 ((trimR d)[(trimR d).length - 1]) (List.getElem_mem _)
    apply h4
    unfold bt
    rw [List.getD_eq_getElem?_getD, List.getElem?_eq_getElem (by omega), Option.getD_some, h5]; rfl
abbrev fv (m : Bool) (d : ByteArray) (x : Int) : Value := .agg #[.bool m, .string d, .int .i64 x]
abbrev fo (m : Bool) (d : ByteArray) (x : Int) : Obj := .cells #[.bool m, .string d, .int .i64 x] 240
/-- The normal form in parts, of the written parts and what the exponent is. -/
def fmM (K : List UInt8) (a : Bool) : Bool := if K = [] then false else a
def fmD (K : List UInt8) : List UInt8 := if K = [] then [48] else trimL K
def fmX (B C K : List UInt8) (e : Int) : Int := if K = [] then 0 else e - C.length + ((B ++ C).length : Int) - K.length
/-- The world behind it: a draw where there are numerals left. -/
def fmW (w : World) (o o' : Obj) (K : List UInt8) : World := if K = [] then (w.alloc o).alloc o' else ((w.alloc o).alloc o').drew
theorem fmW_nil {w : World} {o o' : Obj} {K : List UInt8} (h : K = []) : fmW w o o' K = (w.alloc o).alloc o' := if_pos h
theorem fmW_some {w : World} {o o' : Obj} {K : List UInt8} (h : K ≠ []) : fmW w o o' K = ((w.alloc o).alloc o').drew := if_neg h
theorem trimRight_is {d : List UInt8} {s t : ByteArray} (hs : s = txt d) (ht : t = txt (trimR d)) (hm : d.length ≤ 2000000) (w : World) :
    Calls Tryz.prog 155 #[.string s, .string ⟨#[48]⟩] w fun e w' => e = .returned (.string t) ∧ w = w' := by
  refine (Tryz.strings_TrimRight_one s 48 (by decide) w (by rw [hs, txt_size]; omega)).mono ?_
  rintro e w' ⟨rfl, rfl⟩
  exact ⟨by rw [ht, trimR_B, hs]; rfl, rfl⟩
theorem trimLeft_is {d : List UInt8} {s t : ByteArray} (hs : s = txt d) (ht : t = txt (trimL d)) (w : World) :
    Calls Tryz.prog 227 #[.string s, .string ⟨#[48]⟩] w fun e w' => e = .returned (.string t) ∧ w' = w := by
  refine (Tryz.strings_TrimLeft_one s 48 (by decide) w).mono ?_
  rintro e w' ⟨rfl, rfl⟩
  exact ⟨by rw [ht, trimL_B, hs]; rfl, rfl⟩
set_option maxHeartbeats 2000000 in
theorem form_any {B C : List UInt8} {a d : Bool} {b c f : ByteArray} (x : Int) (w : World) (hb : b = txt B) (hc : c = txt C) (hB : B.length ≤ 1000000) (hC : C.length ≤ 1000000) (hx1 : -1000000000 ≤ x) (hx2 : x ≤ 1000000000) :
    Calls Tryz.prog 210 #[wv a b c d f, .int .i64 x] w fun e w' => e = .returned (fv (fmM (trimR (B ++ C)) a) (txt (fmD (trimR (B ++ C)))) (fmX B C (trimR (B ++ C)) x)) ∧ ∃ (o o' : Obj), w' = fmW w o o' (trimR (B ++ C)) := by
  have hdl : (B ++ C).length ≤ 2000000 := by simp; omega
  obtain ⟨D, hD⟩ : ∃ D, D = txt (B ++ C) := ⟨_, rfl⟩
  obtain ⟨K, hK⟩ : ∃ K, K = trimR (B ++ C) := ⟨_, rfl⟩
  obtain ⟨k, hk⟩ : ∃ k, k = txt K := ⟨_, rfl⟩
  obtain ⟨t, ht⟩ : ∃ t, t = txt (trimL K) := ⟨_, rfl⟩
  have TR := Lib.hid (fun w => trimRight_is (s := D) (t := k) hD (by rw [hk, hK]) hdl w)
  have TL := Lib.hid (fun w => trimLeft_is (s := k) (t := t) hk ht w)
  have hbc : b ++ c = D := by rw [hb, hc, hD, txt_app]
  have hke : k.toList.isEmpty = K.isEmpty := by rw [hk, txt_list]
  have hk0 : k.size ≤ 2000000 := by rw [hk, txt_size, hK]; have := trimR_len (B ++ C); omega
  have hc0 : c.size ≤ 1000000 := by rw [hc, txt_size]; omega
  have hb0 : b.size ≤ 1000000 := by rw [hb, txt_size]; omega
  have hd0 : D.size ≤ 2000000 := by rw [hD, txt_size]; omega
  have HX := Lib.hid (show K ≠ [] → fmX B C K x = x - c.size + D.size - k.size by intro h; unfold fmX; rw [if_neg h, hc, hD, hk, txt_size, txt_size, txt_size])
  rw [← hK]
  have HT := Lib.hid ht
  have HBC := Lib.hid hbc
  have HKE := Lib.hid hke
  clear hb hc hD hk ht hbc hke hB hC hdl hK
  go_enter Tryz.func210, Tryz.ntmps210
  go_upto_region 2 with fail
  rw [HBC.out]
  go_wp2_with fail
  refine (TR.out _).mono ?_
  rintro e w1 ⟨rfl, rfl⟩
  by_cases hn : K = []
  · have HN := Lib.hid hn
    have he : k.toList.isEmpty = true := by rw [HKE.out, hn]; rfl
    have E1 := Lib.hid (show fmM K a = false by unfold fmM; rw [if_pos hn])
    have E2 := Lib.hid (show fmD K = [48] by unfold fmD; rw [if_pos hn])
    have E3 := Lib.hid (show fmX B C K x = 0 by unfold fmX; rw [if_pos hn])
    clear hn
    go_wp2_with fail
    refine bodyPost_ret (v := fv false ⟨#[48]⟩ 0) (by simp [results, Tryz.results210, go_sem]) rfl ?_
    exact ⟨by rw [E1.out, E2.out, E3.out]; rfl, _, _, (fmW_nil HN.out).symm⟩
  · have HN := Lib.hid hn
    have he : k.toList.isEmpty = false := by rw [HKE.out]; simpa using hn
    have E1 := Lib.hid (show fmM K a = a by unfold fmM; rw [if_neg hn])
    have E2 := Lib.hid (show txt (fmD K) = t by unfold fmD; rw [if_neg hn, HT.out])
    have E3 := Lib.hid (HX.out hn)
    have HW := Lib.hid (show IntKind.i64.wrap (IntKind.i64.wrap (IntKind.i64.wrap (x - c.size) + D.size) - k.size) = x - c.size + D.size - k.size by
      rw [IntWalk.i64_in (x - c.size) (by omega), IntWalk.i64_in (x - c.size + D.size) (by omega), IntWalk.i64_in _ (by omega)])
    clear hn
    go_upto_region 5 with fail
    go_region_with (go_at_call 227; refine (TL.out _).mono ?_; rintro e w2 ⟨rfl, rfl⟩)
    all_goals go_wp2_with fail
    all_goals refine bodyPost_ret (v := fv a t (IntKind.i64.wrap (IntKind.i64.wrap (IntKind.i64.wrap (x - c.size) + D.size) - k.size))) (by simp [results, Tryz.results210, go_sem]) rfl ?_
    all_goals exact ⟨by rw [E1.out, E2.out, E3.out, HW.out], _, _, (fmW_some HN.out).symm⟩
end Go.Proofs.YtbeefjhcbphiaaaGreatDoor.De
/- The program's own reading of a text into a normal form in parts, walked. -/
namespace Go.Proofs.YtbeefjhcbphiaaaGreatDoor.De
open Go.RowKit

/-- The parts that a text's normal form has; of a text without one: nothing. -/
def frM (l : List UInt8) : Bool := if (rd l).2 = 0 then fmM (trimR (rdD l)) (decide (bt l 0 = 45)) else false
def frD (l : List UInt8) : List UInt8 := if (rd l).2 = 0 then fmD (trimR (rdD l)) else []
def frX (l : List UInt8) : Int := if (rd l).2 = 0 then (if trimR (rdD l) = [] then 0 else rdN l) else 0
theorem fr_none {l : List UInt8} (h : (rd l).2 ≠ 0) : frM l = false ∧ frD l = [] ∧ frX l = 0 := ⟨if_neg h, if_neg h, if_neg h⟩
theorem frD_len (l : List UInt8) : (frD l).length ≤ 2 * l.length + 1 := by
  unfold frD fmD; split
  · split
    · simp
    · have := trimL_len (trimR (rdD l)); have := trimR_len (rdD l); have := rdD_len l; omega
  · simp
theorem rdN_far {l : List UInt8} (h1 : -1000000000 ≤ (powR l (q4 l) (q5 l)).1) (h2 : (powR l (q4 l) (q5 l)).1 ≤ 1000000000) (hm : l.length ≤ 1000000) : -2000000000 ≤ rdN l ∧ rdN l ≤ 3000000000 := by
  obtain ⟨o1, o2, o3, o4, o5, o6, _, _⟩ := q_order (l := l)
  have := trimR_len (rdD l)
  have := rdD_len l
  unfold rdN; omega
theorem frX_range (l : List UInt8) : -1000000000 ≤ frX l ∧ frX l ≤ 1000000000 := by
  unfold frX
  split
  · rename_i h
    split
    · omega
    · rename_i h2
      cases hB : isB l
      · rw [rd_syntax hB] at h; simp at h
      · cases hp : (powR l (q4 l) (q5 l)).2
        · rw [rd_exp hB hp] at h; simp at h
        · have hT : rdT l ≠ [] := fun e => h2 (kept_nil.1 e)
          by_cases h4 : rdN l > 1000000000 ∨ rdN l < -1000000000
          · rw [rd_far hB hp hT h4] at h; simp at h
          · omega
  · omega
theorem ret_fc {m m' : Bool} {d d' : ByteArray} {x x' c c' : Int} (h1 : m = m') (h2 : d = d') (h3 : x = x') (h4 : c = c') : Ending.returned (.tuple #[fv m d x, .int .i64 c]) = .returned (.tuple #[fv m' d' x', .int .i64 c']) := by rw [h1, h2, h3, h4]
set_option maxHeartbeats 2000000 in
theorem rd2_any {l : List UInt8} {s : ByteArray} (w : World) (hs : s = txt l) (hm : l.length ≤ 1000000) :
    Calls Tryz.prog 184 #[.string s] w fun e w' => e = .returned (.tuple #[fv (frM l) (txt (frD l)) (frX l), .int .i64 (rd l).2]) ∧ Below w.heap.size w w' := by
  have SP := Lib.hid (fun w => split_any (l := l) w hs hm)
  obtain ⟨o1, o2, o3, o4, o5, o6, o7, o8⟩ := q_order (l := l)
  have ⟨r1, r2⟩ := powR_range l (q4 l) (q5 l) o8
  have hfar := rdN_far r1 r2 hm
  have EX := Lib.hid (fun (a d : Bool) (b c f : ByteArray) (hf : f = txt ((l.take (q5 l)).drop (q4 l))) (hd : d = decide (q4 l < q5 l ∧ bt l (q4 l - 1) = 45)) w => by
    have h := expo_any (P := (l.take (q5 l)).drop (q4 l)) (a := a) (d := d) (b := b) (c := c) (f := f) w hf (by
      intro k hk
      simp at hk
      rw [bt_drop, bt_take l (by omega)]
      exact o8 _ (by omega) (by omega)) (by simp; omega)
    rw [hd, exR_is, ← hd] at h
    exact h)
  have FM := Lib.hid (fun (a d : Bool) (b c f : ByteArray) (hb : b = txt ((l.take (q1 l)).drop (q0 l))) (hc : c = txt ((l.take (q3 l)).drop (q2 l))) w =>
    form_any (B := (l.take (q1 l)).drop (q0 l)) (C := (l.take (q3 l)).drop (q2 l)) (a := a) (d := d) (b := b) (c := c) (f := f) (powR l (q4 l) (q5 l)).1 w hb hc (by simp; omega) (by simp; omega) r1 r2)
  have hfx : fmX ((l.take (q1 l)).drop (q0 l)) ((l.take (q3 l)).drop (q2 l)) (trimR (rdD l)) (powR l (q4 l) (q5 l)).1 = if trimR (rdD l) = [] then 0 else rdN l := by
    unfold fmX; split
    · rfl
    · unfold rdN
      show _ - (((l.take (q3 l)).drop (q2 l)).length : Int) + ((rdD l).length : Int) - _ = _
      rw [show ((l.take (q3 l)).drop (q2 l)).length = q3 l - q2 l by simp; omega]; omega
  have HFX := Lib.hid hfx
  clear hs hm o1 o2 o3 o4 o5 o6 o7 o8 hfx
  go_enter Tryz.func184, Tryz.ntmps184
  go_wp2_with fail
  refine (SP.out _).mono ?_
  rintro e w1 ⟨a, b, c, d, f, rfl, hp, o1, o2, rfl⟩
  have HP := Lib.hid hp
  clear hp
  by_cases hB : isB l = true
  · have HB := Lib.hid hB
    obtain ⟨ha, hb, hc, hd, hf⟩ := HP.out hB
    have EX2 := Lib.hid (EX.out a d b c f hf hd)
    have FM2 := Lib.hid (FM.out a d b c f hb hc)
    have HA := Lib.hid ha
    rw [hB]
    clear ha hb hc hd hf hB EX HP SP
    obtain ⟨pn, hpn⟩ : ∃ x, (powR l (q4 l) (q5 l)).1 = x := ⟨_, rfl⟩
    obtain ⟨pb, hpb⟩ : ∃ x, (powR l (q4 l) (q5 l)).2 = x := ⟨_, rfl⟩
    rw [hpn] at EX2 FM2 HFX
    rw [hpb] at EX2
    have HPB := Lib.hid hpb
    clear hpn hpb r1 r2
    rw [show (l.take (q1 l)).drop (q0 l) ++ (l.take (q3 l)).drop (q2 l) = rdD l from rfl, HFX.out] at FM2
    obtain ⟨K, hK⟩ : ∃ K, trimR (rdD l) = K := ⟨_, rfl⟩
    rw [hK] at FM2
    have HK := Lib.hid hK
    obtain ⟨M, hM⟩ : ∃ M, fmM K a = M := ⟨_, rfl⟩
    obtain ⟨T, hT⟩ : ∃ T, txt (fmD K) = T := ⟨_, rfl⟩
    obtain ⟨X, hX⟩ : ∃ X, (if K = [] then 0 else rdN l) = X := ⟨_, rfl⟩
    rw [hM, hT, hX] at FM2
    have hX1 : -2000000000 ≤ X := by rw [← hX]; split <;> omega
    have hX2 : X ≤ 3000000000 := by rw [← hX]; split <;> omega
    have HM := Lib.hid hM
    have HT := Lib.hid hT
    have HX := Lib.hid hX
    clear hK hM hT hX HFX hfar FM
    go_wp2_with fail
    refine (EX2.out _).mono ?_
    rintro e w2 ⟨rfl, rfl⟩
    cases pb
    · have E := Lib.hid (rd_exp HB.out HPB.out)
      have F := Lib.hid (fr_none (l := l) (by rw [E.out]; simp))
      go_wp2_with fail
      refine bodyPost_ret (v := .tuple #[fv false ⟨#[]⟩ 0, .int .i64 7]) (by simp [results, Tryz.results184, go_sem]) rfl ?_
      exact ⟨ret_fc F.out.1.symm (by rw [F.out.2.1]; rfl) F.out.2.2.symm (by rw [E.out]), (((((Below.refl _ _).alloc (Nat.le_refl _) _).alloc (by simp) _).alloc (by simp; omega) _).alloc (by simp; omega) _).alloc (by simp; omega) _⟩
    · by_cases hK : K = []
      · have hT : rdT l = [] := kept_nil.2 (by rw [HK.out, hK])
        have E := Lib.hid (rd_zero HB.out HPB.out hT)
        have F1 := Lib.hid (show frM l = M by unfold frM; rw [E.out, if_pos rfl, HK.out, ← HM.out, HA.out])
        have F2 := Lib.hid (show txt (frD l) = T by unfold frD; rw [E.out, if_pos rfl, HK.out, ← HT.out])
        have hX : X = 0 := by rw [← HX.out, if_pos hK]
        have F3 := Lib.hid (show frX l = X by unfold frX; rw [E.out, if_pos rfl, HK.out, HX.out])
        have HKN := Lib.hid hK
        subst hX
        clear hK hT
        go_wp2_with fail
        refine (FM2.out _).mono ?_
        rintro e w3 ⟨rfl, o3, o4, hw⟩
        rw [fmW_nil HKN.out] at hw
        subst hw
        go_wp2_with fail
        refine bodyPost_ret (v := .tuple #[fv M T 0, .int .i64 0]) (by simp [results, Tryz.results184, go_sem]) rfl ?_
        exact ⟨ret_fc F1.out.symm F2.out.symm F3.out.symm (by rw [E.out]), ((((((((Below.refl _ _).alloc (Nat.le_refl _) _).alloc (by simp) _).alloc (by simp; omega) _).alloc (by simp; omega) _).alloc (by simp; omega) _).alloc (by simp; omega) _).alloc (by simp; omega) _).alloc (by simp; omega) _⟩
      · have hT : rdT l ≠ [] := fun h => hK (by rw [← HK.out]; exact kept_nil.1 h)
        have hXN : X = rdN l := by rw [← HX.out, if_neg hK]
        have HXN := Lib.hid hXN
        have HT2 := Lib.hid hT
        have HKN := Lib.hid hK
        clear hK hT hXN
        go_wp2_with fail
        refine (FM2.out _).mono ?_
        rintro e w3 ⟨rfl, o3, o4, hw⟩
        rw [fmW_some HKN.out] at hw
        subst hw
        by_cases g1 : X > 1000000000
        · have E := Lib.hid (rd_far HB.out HPB.out HT2.out (Or.inl (by rw [← HXN.out]; exact g1)))
          have F := Lib.hid (fr_none (l := l) (by rw [E.out]; simp))
          go_wp2_with fail
          refine bodyPost_ret (v := .tuple #[fv false ⟨#[]⟩ 0, .int .i64 7]) (by simp [results, Tryz.results184, go_sem]) rfl ?_
          exact ⟨ret_fc F.out.1.symm (by rw [F.out.2.1]; rfl) F.out.2.2.symm (by rw [E.out]), belowDrewN (((((((((Below.refl _ _).alloc (Nat.le_refl _) _).alloc (by simp) _).alloc (by simp; omega) _).alloc (by simp; omega) _).alloc (by simp; omega) _).alloc (by simp; omega) _).alloc (by simp; omega) _).alloc (by simp; omega) _) 1⟩
        · by_cases g2 : X < -1000000000
          · have E := Lib.hid (rd_far HB.out HPB.out HT2.out (Or.inr (by rw [← HXN.out]; exact g2)))
            have F := Lib.hid (fr_none (l := l) (by rw [E.out]; simp))
            go_wp2_with fail
            refine bodyPost_ret (v := .tuple #[fv false ⟨#[]⟩ 0, .int .i64 7]) (by simp [results, Tryz.results184, go_sem]) rfl ?_
            exact ⟨ret_fc F.out.1.symm (by rw [F.out.2.1]; rfl) F.out.2.2.symm (by rw [E.out]), belowDrewN (((((((((Below.refl _ _).alloc (Nat.le_refl _) _).alloc (by simp) _).alloc (by simp; omega) _).alloc (by simp; omega) _).alloc (by simp; omega) _).alloc (by simp; omega) _).alloc (by simp; omega) _).alloc (by simp; omega) _) 1⟩
          · have E := Lib.hid (rd_ok HB.out HPB.out HT2.out (by rw [← HXN.out]; omega))
            have F1 := Lib.hid (show frM l = M by unfold frM; rw [E.out, if_pos rfl, HK.out, ← HM.out, HA.out])
            have F2 := Lib.hid (show txt (frD l) = T by unfold frD; rw [E.out, if_pos rfl, HK.out, ← HT.out])
            have F3 := Lib.hid (show frX l = X by unfold frX; rw [E.out, if_pos rfl, HK.out, HX.out])
            go_wp2_with fail
            refine bodyPost_ret (v := .tuple #[fv M T X, .int .i64 0]) (by simp [results, Tryz.results184, go_sem]) rfl ?_
            exact ⟨ret_fc F1.out.symm F2.out.symm F3.out.symm (by rw [E.out]), belowDrewN (((((((((Below.refl _ _).alloc (Nat.le_refl _) _).alloc (by simp) _).alloc (by simp; omega) _).alloc (by simp; omega) _).alloc (by simp; omega) _).alloc (by simp; omega) _).alloc (by simp; omega) _).alloc (by simp; omega) _) 1⟩
  · have hB : isB l = false := by simpa using hB
    have E := Lib.hid (rd_syntax hB)
    have F := Lib.hid (fr_none (l := l) (by rw [rd_syntax hB]; simp))
    rw [hB]
    clear hB
    go_wp2_with fail
    refine bodyPost_ret (v := .tuple #[fv false ⟨#[]⟩ 0, .int .i64 3]) (by simp [results, Tryz.results184, go_sem]) rfl ?_
    exact ⟨ret_fc F.out.1.symm (by rw [F.out.2.1]; rfl) F.out.2.2.symm (by rw [E.out]), ((((Below.refl _ _).alloc (Nat.le_refl _) _).alloc (by simp) _).alloc (by simp; omega) _).alloc (by simp; omega) _⟩
end Go.Proofs.YtbeefjhcbphiaaaGreatDoor.De
/- The program's own normal form as a text, walked. -/
namespace Go.Proofs.YtbeefjhcbphiaaaGreatDoor.De
open Go.RowKit

/-- The library's table of powers lies as its text lays it. -/
def Tab (w : World) : Prop := Lib.TabIs Tryz.prog w "internal/strconv.uint64pow10" .u64 Lib.pow10Tab
theorem gPow : Tryz.prog.globalNamed "internal/strconv.uint64pow10" = some 1 := by kernel_rfl
theorem Tab.on {w w' : World} (h : Tab w) (hb : Below w.heap.size w w') : Tab w' := by
  unfold Tab Lib.TabIs World.var? at h ⊢
  rw [gPow] at h ⊢
  simp only [Option.bind_some] at h ⊢
  have hlt : 1 < w.heap.size := by
    rcases Nat.lt_or_ge 1 w.heap.size with h' | h'
    · exact h'
    · rw [Array.getElem?_eq_none h'] at h; cases h
  rw [hb.block _ hlt]
  exact h
theorem itoN_dec (n : Nat) : itoN n = Lib.decDigits n := by
  induction n using Nat.strongRecOn with
  | ind n ih =>
    rw [itoN, Lib.decDigits]
    by_cases h : n < 10
    · rw [if_pos h, dif_pos h]
    · rw [if_neg h, dif_neg h, ih (n / 10) (by omega)]
theorem itoL_itoa (n : Int) : itoL n = Lib.itoa n := by
  unfold itoL Lib.itoa
  rw [itoN_dec, itoN_dec]
  by_cases h : n < 0
  · rw [if_pos h, if_pos h, show (-n).toNat = n.natAbs by omega]
  · rw [if_neg h, if_neg h]
theorem itoa_is {n : Int} {x : ByteArray} (hx : x = txt (itoL n)) (h0 : -9223372036854775808 ≤ n) (h1 : n ≤ 9223372036854775807) (w : World) (ht : Tab w) :
    Calls Tryz.prog 212 #[.int .i64 n] w fun e w' => e = .returned (.string x) ∧ Below w.heap.size w w' := by
  refine (Tryz.strconv_Itoa n h0 h1 w ht).mono ?_
  rintro e w' ⟨rfl, k, os, rfl⟩
  exact ⟨by rw [hx, itoL_itoa]; rfl, ⟨rfl, rfl, rfl, by simp [Sort.grow], fun j hj => Sort.heap_grow_old _ _ hj⟩⟩
/-- Is it nought's normal form? -/
def ngt (m : Bool) (D : List UInt8) (x : Int) : Bool := decide (m = false ∧ D = [48] ∧ x = 0)
theorem nought_any {D : List UInt8} {m : Bool} {d : ByteArray} (x : Int) (w : World) (hd : d = txt D) :
    Calls Tryz.prog 211 #[fv m d x] w fun e w' => e = .returned (.bool (ngt m D x)) ∧ w' = w.alloc (fo m d x) := by
  go_enter Tryz.func211, Tryz.ntmps211
  go_wp2_with fail
  all_goals (go_ret; simp_all [ngt, txt_list])
theorem nought_is {D : List UInt8} {m : Bool} {d : ByteArray} {x : Int} (q : Bool) (w : World) (hd : d = txt D) (hq : q = ngt m D x) :
    Calls Tryz.prog 211 #[fv m d x] w fun e w' => e = .returned (.bool q) ∧ w' = w.alloc (fo m d x) := by subst hq; exact nought_any x w hd
/-- The normal form as a text. -/
def fmt (m : Bool) (D : List UInt8) (x : Int) : List UInt8 := if ngt m D x = true then [48] else mk m D x
structure TS (w : World) (d : ByteArray) (x : Int) (wr : World) : Prop where
  below : Below w.heap.size w wr
  more : w.heap.size < wr.heap.size
  c1 : wr.cell? ⟨w.heap.size, 1, none⟩ = some (.string d)
  c2 : wr.cell? ⟨w.heap.size, 2, none⟩ = some (.int .i64 x)
theorem TS.on {w : World} {d : ByteArray} {x : Int} {wr w' : World} (h : TS w d x wr) (hb : Below wr.heap.size wr w') : TS w d x w' :=
  ⟨h.below.trans (hb.mono h.below.size), Nat.lt_of_lt_of_le h.more hb.size, (hb.cell (by exact h.more)).trans h.c1, (hb.cell (by exact h.more)).trans h.c2⟩
theorem TS.drew {w : World} {d : ByteArray} {x : Int} {wr : World} (h : TS w d x wr) : TS w d x wr.drew := h.on ((Below.refl _ _).drew)
set_option maxRecDepth 100000 in
set_option maxHeartbeats 2000000 in
theorem text_any {D : List UInt8} {m : Bool} {d : ByteArray} (x : Int) (w : World) (ht : Tab w) (hd : d = txt D) (hD : D.length ≤ 3000000) (h1 : -1000000000 ≤ x) (h2 : x ≤ 1000000000) :
    Calls Tryz.prog 185 #[fv m d x] w fun e w' => e = .returned (.string (txt (fmt m D x))) ∧ Below w.heap.size w w' := by
  obtain ⟨q, hq⟩ : ∃ q, q = ngt m D x := ⟨_, rfl⟩
  have NG := Lib.hid (fun w => nought_is (d := d) q w hd hq)
  obtain ⟨t, htx⟩ : ∃ t, t = txt (itoL x) := ⟨_, rfl⟩
  obtain ⟨g, hg⟩ : ∃ g, g = txt (sg m) := ⟨_, rfl⟩
  have IT := Lib.hid (fun w => itoa_is htx (by omega) (by omega) w)
  have htl : t.size ≤ 1000000003 := by rw [htx, txt_size]; exact itoL_len h1 h2
  have hdl : d.size ≤ 3000000 := by rw [hd, txt_size]; omega
  have hgl : g.size ≤ 1 := by rw [hg, txt_size]; cases m <;> simp [sg]
  obtain ⟨y1, hy1⟩ : ∃ y, g ++ d = y := ⟨_, rfl⟩
  obtain ⟨y2, hy2⟩ : ∃ y, y1 ++ ⟨#[101]⟩ = y := ⟨_, rfl⟩
  obtain ⟨y3, hy3⟩ : ∃ y, y2 ++ t = y := ⟨_, rfl⟩
  have z1 : y1.size ≤ 3000001 := by rw [← hy1, ByteArray.size_append]; omega
  have z2 : y2.size ≤ 3000002 := by rw [← hy2, ByteArray.size_append]; show y1.size + 1 ≤ _; omega
  have n1 : ¬ (9223372036854775807 < g.size + d.size) := by omega
  have n2 : ¬ (9223372036854775807 < y1.size + 1) := by omega
  have n2' : ¬ (9223372036854775807 < y1.size + ByteArray.size ⟨#[101]⟩) := by show ¬ (9223372036854775807 < y1.size + 1); omega
  have n3 : ¬ (9223372036854775807 < y2.size + t.size) := by omega
  have HF := Lib.hid (show q = false → txt (fmt m D x) = y3 by
    intro h
    unfold fmt
    rw [← hq, h, if_neg (by simp)]
    unfold mk
    rw [← txt_app, ← txt_app, ← txt_app, ← hd, ← htx, ← hg, ← hy3, ← hy2, ← hy1]
    rfl)
  have HQ := Lib.hid (show q = true → fmt m D x = [48] by intro h; unfold fmt; rw [← hq, h, if_pos rfl])
  have HG0 := Lib.hid (show m = false → g = ⟨#[]⟩ by intro h; rw [hg, h]; rfl)
  have HG1 := Lib.hid (show m = true → g = ⟨#[45]⟩ by intro h; rw [hg, h]; rfl)
  have HT := Lib.hid ht
  have HY1 := Lib.hid hy1
  have HY2 := Lib.hid hy2
  have HY3 := Lib.hid hy3
  clear hd hq htx hg ht hD h1 h2 hy1 hy2 hy3
  go_enter Tryz.func185, Tryz.ntmps185
  go_wp2_with fail
  refine (NG.out _).mono ?_
  rintro e w1 ⟨rfl, rfl⟩
  cases q
  · have HF2 := Lib.hid (HF.out rfl)
    clear HF HQ NG
    obtain ⟨W, hW⟩ : ∃ W, W = (w.alloc (fo m d x)).alloc (fo m d x) := ⟨_, rfl⟩
    have hb : Below w.heap.size w W := by rw [hW]; exact ((Below.refl _ _).alloc (Nat.le_refl _) _).alloc (by simp) _
    have hc0 : W.cell? ⟨w.heap.size, 0, none⟩ = some (.bool m) := by rw [hW]; simp [go_sem]
    have hc1 : W.cell? ⟨w.heap.size, 1, none⟩ = some (.string d) := by rw [hW]; simp [go_sem]
    have hc2 : W.cell? ⟨w.heap.size, 2, none⟩ = some (.int .i64 x) := by rw [hW]; simp [go_sem]
    have hlt : w.heap.size < W.heap.size := by rw [hW]; simp; omega
    rw [← hW]
    clear hW
    have hS : TS w d x W := ⟨hb, hlt, hc1, hc2⟩
    have HS := Lib.hid hS
    clear hS hb hlt
    go_upto_if 7 with fail
    go_cut [3] (fun v wx => v = .string g ∧ W = wx)
    case first =>
      cases m
      · have E := Lib.hid (HG0.out rfl)
        go_wp2_with fail
        go_meet
        exact ⟨by rw [E.out], rfl⟩
      · have E := Lib.hid (HG1.out rfl)
        go_wp2_with fail
        go_meet
        exact ⟨by rw [E.out], rfl⟩
    case rest =>
      obtain ⟨rfl, rfl⟩ := hcut
      have hy1 := HY1.out
      have hy2 := HY2.out
      have hy3 := HY3.out
      have hS := HS.out
      go_upto_region 6 with fail
      go_region_held3 (fun wx => TS w d x wx ∧ wx.cell? ⟨w.heap.size, 1, none⟩ = some (.string d) ∧ wx.cell? ⟨w.heap.size, 2, none⟩ = some (.int .i64 x))
        (((try go_split_ands); refine (fun h => ⟨h, h.c1, h.c2⟩) ?_; first | assumption | exact TS.drew (by assumption) | (refine TS.on ?_ hb; assumption)))
        (((try go_split_ands); go_at_call 212; refine (IT.out _ (HT.out.on (TS.below (by assumption)))).mono ?_; rintro e w1 ⟨rfl, hb⟩))
      rename_i hS2
      go_wp2_with fail
      go_ret
      exact ⟨ret_str HF2.out.symm, hS2.1.below⟩
  · have HQ2 := Lib.hid (HQ.out rfl)
    clear HF HQ
    go_wp2_with fail
    go_ret
    exact ⟨ret_str (by rw [HQ2.out]; rfl), ((Below.refl _ _).alloc (Nat.le_refl _) _).alloc (by simp) _⟩
end Go.Proofs.YtbeefjhcbphiaaaGreatDoor.De
/- The program's own Read of a decimal, walked. -/
namespace Go.Proofs.YtbeefjhcbphiaaaGreatDoor.De
open Go.RowKit

theorem fr_rd {l : List UInt8} (h : (rd l).2 = 0) : (trimR (rdD l) = [] ∧ (rd l).1 = [48] ∧ frM l = false ∧ frD l = [48] ∧ frX l = 0) ∨ (trimR (rdD l) ≠ [] ∧ Fine (rdT l) ∧ frM l = decide (bt l 0 = 45) ∧ frD l = rdT l ∧ frX l = rdN l ∧ (rd l).1 = mk (decide (bt l 0 = 45)) (rdT l) (rdN l)) := by
  have hB : isB l = true := by
    cases hB : isB l
    · rw [rd_syntax hB] at h; simp at h
    · rfl
  have hp : (powR l (q4 l) (q5 l)).2 = true := by
    cases hp : (powR l (q4 l) (q5 l)).2
    · rw [rd_exp hB hp] at h; simp at h
    · rfl
  by_cases hK : trimR (rdD l) = []
  · have hT : rdT l = [] := kept_nil.2 hK
    refine Or.inl ⟨hK, by rw [rd_zero hB hp hT], ?_, ?_, ?_⟩
    · unfold frM fmM; rw [if_pos h, if_pos hK]
    · unfold frD fmD; rw [if_pos h, if_pos hK]
    · unfold frX; rw [if_pos h, if_pos hK]
  · have hT : rdT l ≠ [] := fun e => hK (kept_nil.1 e)
    refine Or.inr ⟨hK, rdT_fine hT, ?_, ?_, ?_, ?_⟩
    · unfold frM fmM; rw [if_pos h, if_neg hK]
    · unfold frD fmD; rw [if_pos h, if_neg hK]; rfl
    · unfold frX; rw [if_pos h, if_neg hK]
    · by_cases h4 : rdN l > 1000000000 ∨ rdN l < -1000000000
      · rw [rd_far hB hp hT h4] at h; simp at h
      · rw [rd_ok hB hp hT h4]; simp [mk, sg]
theorem fine_ngt {m : Bool} {T : List UInt8} {N : Int} (h : Fine T) : ngt m T N = false := by
  unfold ngt; exact decide_eq_false (fun h2 => h.ne h2.2.1)
theorem fmt_rd {l : List UInt8} (h : (rd l).2 = 0) : fmt (frM l) (frD l) (frX l) = (rd l).1 := by
  rcases fr_rd h with ⟨_, e, e1, e2, e3⟩ | ⟨_, hF, e1, e2, e3, e⟩
  · rw [e1, e2, e3, e]; rfl
  · rw [e1, e2, e3, e]; unfold fmt; rw [fine_ngt hF, if_neg (by simp)]
theorem rd2_is {l : List UInt8} {s : ByteArray} (hs : s = txt l) (hm : l.length ≤ 1000000) {M : Bool} {T : ByteArray} {X c : Int} (h1 : M = frM l) (h2 : T = txt (frD l)) (h3 : X = frX l) (h4 : c = (rd l).2) (w : World) :
    Calls Tryz.prog 184 #[.string s] w fun e w' => e = .returned (.tuple #[fv M T X, .int .i64 c]) ∧ Below w.heap.size w w' := by
  subst h1; subst h2; subst h3; subst h4; exact rd2_any w hs hm
theorem text_is {D : List UInt8} {m : Bool} {d y : ByteArray} {x : Int} (w : World) (ht : Tab w) (hd : d = txt D) (hD : D.length ≤ 3000000) (h1 : -1000000000 ≤ x) (h2 : x ≤ 1000000000) (hy : y = txt (fmt m D x)) :
    Calls Tryz.prog 185 #[fv m d x] w fun e w' => e = .returned (.string y) ∧ Below w.heap.size w w' := by subst hy; exact text_any x w ht hd hD h1 h2
theorem rd_none {l : List UInt8} (h : (rd l).2 ≠ 0) : (rd l).1 = [] := by
  unfold rd at *
  split
  · rfl
  · rename_i h1; rw [if_neg h1] at h
    split
    · rfl
    · rename_i h2; rw [if_neg h2] at h
      split
      · rename_i h3; rw [if_pos h3] at h; exact absurd rfl h
      · rename_i h3; rw [if_neg h3] at h
        split
        · rfl
        · rename_i h4; rw [if_neg h4] at h; exact absurd rfl h
set_option maxHeartbeats 1000000 in
theorem dread_any {l : List UInt8} {s : ByteArray} (w : World) (ht : Tab w) (hs : s = txt l) (hm : l.length ≤ 1000000) :
    Calls Tryz.prog 162 #[.string s] w fun e w' => e = .returned (.tuple #[.string (txt (rd l).1), .int .i64 (rd l).2]) ∧ Below w.heap.size w w' := by
  obtain ⟨M, hM⟩ : ∃ M, M = frM l := ⟨_, rfl⟩
  obtain ⟨T, hT⟩ : ∃ T, T = txt (frD l) := ⟨_, rfl⟩
  obtain ⟨X, hX⟩ : ∃ X, X = frX l := ⟨_, rfl⟩
  obtain ⟨c, hc⟩ : ∃ c, c = (rd l).2 := ⟨_, rfl⟩
  obtain ⟨y, hy⟩ : ∃ y, y = txt (fmt (frM l) (frD l) (frX l)) := ⟨_, rfl⟩
  have RD := Lib.hid (fun w => rd2_is hs hm hM hT hX hc w)
  have hfx := frX_range l
  have TX := Lib.hid (fun w ht => text_is (m := M) (x := X) (y := y) w ht hT (by have := frD_len l; omega) (by rw [hX]; omega) (by rw [hX]; omega) (by rw [hy, hM, hX]))
  have HC := Lib.hid hc
  have HY := Lib.hid (show c = 0 → y = txt (rd l).1 by intro h; rw [hy, fmt_rd (by rw [← hc, h])])
  have HN := Lib.hid (show c ≠ 0 → (rd l).1 = [] by intro h; exact rd_none (by rw [← hc]; exact h))
  have HT := Lib.hid ht
  clear hM hT hX hc hy hs hm ht hfx
  go_enter Tryz.func162, Tryz.ntmps162
  go_wp2_with fail
  refine (RD.out _).mono ?_
  rintro e w1 ⟨rfl, hb1⟩
  have HB := Lib.hid (hb1.alloc hb1.size (fo M T X))
  clear hb1
  by_cases h0 : c = 0
  · subst h0
    have E := Lib.hid (HY.out rfl)
    have E2 := Lib.hid HC.out
    go_wp2_with fail
    refine (TX.out _ (HT.out.on HB.out)).mono ?_
    rintro e w2 ⟨rfl, hb2⟩
    have HB2 := Lib.hid (HB.out.trans (hb2.mono HB.out.size))
    clear hb2
    go_wp2_with fail
    go_ret2
    exact ⟨ret_sc E.out E2.out, HB2.out⟩
  · have E := Lib.hid (HN.out h0)
    have h0' : (c != 0) = true := by simpa using h0
    clear h0
    go_wp2_with fail
    go_ret2
    exact ⟨ret_sc (by rw [E.out]; rfl) HC.out, HB.out⟩
end Go.Proofs.YtbeefjhcbphiaaaGreatDoor.De
