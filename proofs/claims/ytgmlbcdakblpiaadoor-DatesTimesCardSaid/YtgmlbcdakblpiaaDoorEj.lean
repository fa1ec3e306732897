/- Times as lists: what the law of times reads. -/
import Derived.Test.YtgmlbcdakblpiaaDoorEh
namespace Go.Proofs.YtgmlbcdakblpiaaDoor
open Go.RowKit
namespace Da

def DAYL : List UInt8 := [50, 48, 48, 49, 45, 48, 50, 45, 48, 51]
theorem day_len : DAYL.length = 10 := rfl
theorem day_dte : dte DAYL = true := by decide +kernel
theorem day_mD : mD DAYL = true := by decide +kernel
theorem day_ne : DAYL ≠ [] := by decide
section
variable {T F Z : List UInt8} (ht : T.length = 8) (hk : clk T 0 = true)
include ht
theorem t_ne : T ≠ [] := by intro e; rw [e] at ht; cases ht
omit ht
theorem asm_time (c : UInt8) : asm c [] T F [] = T ++ F := by simp [asm, md]
include ht
theorem asm_day (c : UInt8) : asm c DAYL T F Z = DAYL ++ c :: (T ++ (F ++ Z)) := by
  rw [asm, md, if_pos ⟨day_ne, t_ne ht⟩]; rfl
theorem ok_time : ok [] T [] = mT T := by unfold ok; rw [decide_eq_false (t_ne ht)]; simp
theorem ok_day : ok DAYL T Z = (mT T && (decide (Z = []) || mZ Z)) := by
  unfold ok; rw [decide_eq_false (t_ne ht), day_mD]; simp
include hk
theorem sh_time (hF : F = [] ∨ ft F) : Sh [] T F [] :=
  ⟨.inr (t_ne ht), fun h => absurd rfl h, fun _ => ⟨ht, hk⟩, fun h => ⟨t_ne ht, hF.resolve_left h⟩, fun h => absurd rfl h⟩
theorem sh_day (hF : F = [] ∨ ft F) (hZ : Z = [] ∨ zt Z) : Sh DAYL T F Z :=
  ⟨.inl day_ne, fun _ => ⟨day_len, day_dte⟩, fun _ => ⟨ht, hk⟩, fun h => ⟨t_ne ht, hF.resolve_left h⟩, fun h => ⟨day_ne, t_ne ht, hZ.resolve_left h⟩⟩
theorem r_told (hF : F = [] ∨ ft F) : rdD (T ++ F) = if mT T = true then (T ++ stp F, 0) else ([], 9) := by
  have := (rd_asm (sh_time ht hk hF) (c := 84) (by decide)).1
  rw [asm_time, ok_time ht] at this
  rw [this, nm, List.map_nil, asm_time (F := stp F)]
theorem r_zone (hF : F = [] ∨ ft F) (hZ : Z = [] ∨ zt Z) {c : UInt8} (hc : sp (c.toNat : Int) = true) :
    rdD (DAYL ++ c :: (T ++ (F ++ Z))) = if (mT T && (decide (Z = []) || mZ Z)) = true then (DAYL ++ 84 :: (T ++ (stp F ++ Z.map up)), 0) else ([], 9) := by
  have := (rd_asm (sh_day ht hk hF hZ) hc).1
  rw [asm_day ht, ok_day ht] at this
  rw [this, nm, asm_day (F := stp F) (Z := Z.map up) ht]
theorem o_time (hF : F = [] ∨ ft F) (hm : mT T = true) : ofD (T ++ stp F) = 2 := by
  obtain ⟨a, b⟩ := rd_nm (sh_time ht hk hF) (by rw [ok_time ht]; exact hm)
  have e : nm [] T F [] = T ++ stp F := by rw [nm]; exact asm_time 84
  rw [e] at a b
  rw [ofD, a, if_pos ⟨rfl, rfl⟩, b, kd4, if_neg (fun h => h rfl), if_neg (fun h => h.1 rfl), if_pos (t_ne ht)]
theorem o_day (hF : F = [] ∨ ft F) (hZ : Z = [] ∨ zt Z) (hm : mT T = true) (hz : (decide (Z = []) || mZ Z) = true) : ofD (DAYL ++ 84 :: (T ++ (stp F ++ Z.map up))) = if Z = [] then 3 else 4 := by
  obtain ⟨a, b⟩ := rd_nm (sh_day ht hk hF hZ) (by rw [ok_day ht, hm, hz]; rfl)
  have e : nm DAYL T F Z = DAYL ++ 84 :: (T ++ (stp F ++ Z.map up)) := by rw [nm]; exact asm_day ht 84
  rw [e] at a b
  rw [ofD, a, if_pos ⟨rfl, rfl⟩, b, kd4]
  by_cases z : Z = []
  · rw [if_neg (fun h => h z), if_pos ⟨day_ne, t_ne ht⟩, if_pos z]
  · rw [if_pos z, if_neg z]
theorem r_bad (hF : ft F) (hZ : zt Z) : rdD (T ++ (F ++ Z)) = ([], 3) := by
  have hk2 : clk (T ++ (F ++ Z)) 0 = true := by rw [clk_l (by omega)]; exact hk
  have hd := dte_clk hk2
  have hh : hT (T ++ (F ++ Z)) = true := by rw [hT, hd]; exact hk2
  have htp : tp (T ++ (F ++ Z)) = 0 := by rw [tp, hd]; rfl
  have hnz : nZ (T ++ (F ++ Z)) = 0 := by rw [nZ, hd]; simp
  have hnf : nF (T ++ (F ++ Z)) = F.length := by
    rw [nF, hh, if_pos rfl, htp]
    have e1 := frc_r T (F ++ Z) 0
    rw [ht] at e1
    have e2 := (frc_of (F := F) (Z := Z) (R := []) (fun _ => hF) (fun _ => hZ)).2 (.inr rfl)
    rw [List.append_nil] at e2
    rw [← e2]; exact e1
  have hen : en (T ++ (F ++ Z)) = 8 + F.length := by rw [en, hh, if_pos rfl, htp, hnz, hnf]; omega
  have hz := zt_len hZ
  rw [rdD, if_neg]
  rintro ⟨h, _⟩
  rw [hen] at h
  simp only [List.length_append] at h
  omega
end
def cl (h m s : Nat) : List UInt8 := nml h 2 ++ 58 :: (nml m 2 ++ 58 :: nml s 2)
theorem cl_bt (h m s : Nat) : bt (cl h m s) 0 = 48 + ((h / 10 % 10 : Nat) : Int) ∧ bt (cl h m s) 1 = 48 + ((h / 1 % 10 : Nat) : Int) ∧ bt (cl h m s) 3 = 48 + ((m / 10 % 10 : Nat) : Int) ∧ bt (cl h m s) 4 = 48 + ((m / 1 % 10 : Nat) : Int) ∧
    bt (cl h m s) 6 = 48 + ((s / 10 % 10 : Nat) : Int) ∧ bt (cl h m s) 7 = 48 + ((s / 1 % 10 : Nat) : Int) :=
  ⟨dc_val _, dc_val _, dc_val _, dc_val _, dc_val _, dc_val _⟩
theorem cl_len (h m s : Nat) : (cl h m s).length = 8 := rfl
theorem cl_clk (h m s : Nat) : clk (cl h m s) 0 = true := by
  obtain ⟨h0, h1, h3, h4, h6, h7⟩ := cl_bt h m s
  exact clk_iff.2 ⟨t2_of h0 h1 (Nat.mod_lt _ (by omega)) (Nat.mod_lt _ (by omega)), rfl, t2_of h3 h4 (Nat.mod_lt _ (by omega)) (Nat.mod_lt _ (by omega)), rfl, t2_of h6 h7 (Nat.mod_lt _ (by omega)) (Nat.mod_lt _ (by omega))⟩
theorem cl_mT {h m s : Nat} (hh : h < 100) (hm : m < 100) (hs : s < 100) : mT (cl h m s) = decide (h < 24 ∧ m < 60 ∧ (s < 60 ∨ s = 60 ∧ m = 59)) := by
  obtain ⟨h0, h1, h3, h4, h6, h7⟩ := cl_bt h m s
  have a1 : v2 (cl h m s) 0 = (h : Int) := by rw [v2_of h0 h1]; omega
  have a2 : v2 (cl h m s) 3 = (m : Int) := by rw [v2_of h3 h4]; omega
  have a3 : v2 (cl h m s) 6 = (s : Int) := by rw [v2_of h6 h7]; omega
  rw [mT, a1, a2, a3]
  exact decide_eq_decide.2 (by omega)
def zl (c : UInt8) (a b : Nat) : List UInt8 := c :: (nml a 2 ++ 58 :: nml b 2)
theorem zl_bt (c : UInt8) (a b : Nat) : bt (zl c a b) 1 = 48 + ((a / 10 % 10 : Nat) : Int) ∧ bt (zl c a b) 2 = 48 + ((a / 1 % 10 : Nat) : Int) ∧ bt (zl c a b) 4 = 48 + ((b / 10 % 10 : Nat) : Int) ∧ bt (zl c a b) 5 = 48 + ((b / 1 % 10 : Nat) : Int) :=
  ⟨dc_val _, dc_val _, dc_val _, dc_val _⟩
theorem zl_zs {c : UInt8} (hc : c = 43 ∨ c = 45) (a b : Nat) : zs (zl c a b) 0 = true := by
  obtain ⟨h1, h2, h4, h5⟩ := zl_bt c a b
  refine zs_iff.2 ⟨?_, t2_of h1 h2 (Nat.mod_lt _ (by omega)) (Nat.mod_lt _ (by omega)), rfl, t2_of h4 h5 (Nat.mod_lt _ (by omega)) (Nat.mod_lt _ (by omega))⟩
  rcases hc with rfl | rfl
  · exact .inl rfl
  · exact .inr rfl
theorem zl_zt {c : UInt8} (hc : c = 43 ∨ c = 45) (a b : Nat) : zt (zl c a b) := .inr ⟨rfl, zl_zs hc a b⟩
theorem zl_up {c : UInt8} (hc : c = 43 ∨ c = 45) (a b : Nat) : (zl c a b).map up = zl c a b := six_up rfl (zl_zs hc a b)
theorem zl_mZ {c : UInt8} {a b : Nat} (ha : a < 100) (hb : b < 100) : mZ (zl c a b) = decide (a < 24 ∧ b < 60) := by
  obtain ⟨h1, h2, h4, h5⟩ := zl_bt c a b
  have a1 : v2 (zl c a b) 1 = (a : Int) := by rw [v2_of h1 h2]; omega
  have a2 : v2 (zl c a b) 4 = (b : Int) := by rw [v2_of h4 h5]; omega
  rw [mZ, a1, a2]
  refine decide_eq_decide.2 ⟨fun h => ?_, fun h => .inr (by omega)⟩
  have e : (zl c a b).length = 6 := rfl
  rw [e] at h
  omega
/-- A part of a second with noughts behind it. -/
def fl (p k : Nat) : List UInt8 := 46 :: (nml p 6 ++ List.replicate k 48)
theorem dc_dg (n : Nat) : dg ((dc n).toNat : Int) = true := by
  rw [dc_val]; have : n % 10 < 10 := Nat.mod_lt _ (by omega)
  exact dg_iff.2 (by omega)
theorem nml_dg (n : Nat) : ∀ i, ∀ c ∈ nml n i, dg (c.toNat : Int) = true
  | 0, c, h => by cases h
  | i + 1, c, h => by
    rw [nml, List.mem_cons] at h
    rcases h with rfl | h
    · exact dc_dg _
    · exact nml_dg n i c h
theorem fl_ft (p k : Nat) : ft (fl p k) := by
  refine ⟨nml p 6 ++ List.replicate k 48, by simp [nml], rfl, fun c hc => ?_⟩
  rw [List.mem_append] at hc
  rcases hc with hc | hc
  · exact nml_dg p 6 c hc
  · have := (List.mem_replicate.1 hc).2
    rw [this]; decide
theorem st0_rep (l : List UInt8) : ∀ k, st0 (l ++ List.replicate k 48) = st0 l
  | 0 => by simp
  | k + 1 => by
    rw [List.replicate_succ', ← List.append_assoc, st0_zero, st0_rep l k]
theorem st0_dot (l : List UInt8) : st0 (46 :: l) = 46 :: st0 l := by
  unfold st0
  rw [List.reverse_cons, drop0_app]
  split
  · rename_i h; rw [h]; rfl
  · simp
theorem stp_fl (p k : Nat) : stp (fl p k) = if st0 (nml p 6) = [] then [] else 46 :: st0 (nml p 6) := by
  have e : st0 (fl p k) = 46 :: st0 (nml p 6) := by rw [fl, st0_dot, st0_rep]
  rw [stp, e]
  by_cases h : st0 (nml p 6) = []
  · rw [h, if_pos rfl, if_pos rfl]
  · rw [if_neg h, if_neg (by intro g; injection g with _ g; exact h g)]
theorem repL (k : Nat) : Lib.repeatL [48] k = List.replicate k 48 := by
  induction k with
  | zero => rfl
  | succ k ih => rw [Lib.repeatL, ih]; rfl
theorem repeat_is {x : Int} {S : ByteArray} (k : Nat) (hk : k ≤ 20) (w : World) (hx : x = k) (hS : S = txt (List.replicate k 48)) :
    Calls Tryd.prog 17 #[.string ⟨#[48]⟩, .int .i64 x] w fun e w' => e = .returned (.string S) ∧ Below w.heap.size w w' := by
  subst hx hS
  refine (Tryd.strings_Repeat ⟨#[48]⟩ k w (by omega) (by show 1 * k ≤ _; omega)).mono ?_
  rintro e w' ⟨rfl, hb⟩
  exact ⟨by rw [← repL]; rfl, hb⟩
end Da
end Go.Proofs.YtgmlbcdakblpiaaDoor
