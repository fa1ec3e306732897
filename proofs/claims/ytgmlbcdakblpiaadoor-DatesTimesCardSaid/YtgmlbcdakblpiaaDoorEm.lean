/- What the law of times asks, told as calls. -/
import Derived.Test.YtgmlbcdakblpiaaDoorEj
namespace Go.Proofs.YtgmlbcdakblpiaaDoor
open Go.RowKit
namespace Da

abbrev DAY : ByteArray := ⟨#[50, 48, 48, 49, 45, 48, 50, 45, 48, 51]⟩
theorem day_txt : DAY = txt DAYL := rfl
def tdl (h m s p k : Nat) : List UInt8 := cl h m s ++ fl p k
def wtl (h m s p k : Nat) : List UInt8 := cl h m s ++ stp (fl p k)
section
variable {h m s p k : Nat}
theorem tdl_len : (tdl h m s p k).length = 15 + k := by
  rw [tdl, List.length_append, cl_len, fl, List.length_cons, List.length_append, nml_len, List.length_replicate]; omega
theorem wtl_len : (wtl h m s p k).length ≤ 15 + k := by
  have e1 := stp_len (fl p k)
  have e2 : (fl p k).length = 7 + k := by rw [fl, List.length_cons, List.length_append, nml_len, List.length_replicate]; omega
  rw [wtl, List.length_append, cl_len]; omega
/-- A day, a byte between, a time, and a zone or none. -/
theorem day_is {c : UInt8} {Z : List UInt8} {TD : ByteArray} (hTD : TD = txt (tdl h m s p k)) : DAY ++ txt [c] ++ TD ++ txt Z = txt (DAYL ++ c :: (cl h m s ++ (fl p k ++ Z))) := by
  rw [hTD, day_txt, txt_app, txt_app, txt_app, tdl]; congr 1; try simp
theorem day_w {Z : List UInt8} {WT : ByteArray} (hWT : WT = txt (wtl h m s p k)) : DAY ++ txt [84] ++ WT ++ txt Z = txt (DAYL ++ 84 :: (cl h m s ++ (stp (fl p k) ++ Z))) := by
  rw [hWT, day_txt, txt_app, txt_app, txt_app, wtl]; congr 1; try simp
theorem day_len9 {c : UInt8} {Z : List UInt8} (hk : k ≤ 8) (hz : Z.length ≤ 6) : (DAYL ++ c :: (cl h m s ++ (fl p k ++ Z))).length ≤ 1000000 := by
  have e2 : (fl p k).length = 7 + k := by rw [fl, List.length_cons, List.length_append, nml_len, List.length_replicate]; omega
  simp only [List.length_append, List.length_cons, day_len, cl_len, e2]; omega
theorem day_len8 {Z : List UInt8} (hk : k ≤ 8) (hz : Z.length ≤ 6) : (DAYL ++ 84 :: (cl h m s ++ (stp (fl p k) ++ Z))).length ≤ 1000000 := by
  have e2 : (fl p k).length = 7 + k := by rw [fl, List.length_cons, List.length_append, nml_len, List.length_replicate]; omega
  have e1 := stp_len (fl p k)
  simp only [List.length_append, List.length_cons, day_len, cl_len]; omega
theorem fa_is {c : UInt8} {Z : List UInt8} {S TD : ByteArray} (hTD : TD = txt (tdl h m s p k)) (hk : k ≤ 8) (hc : sp (c.toNat : Int) = true) (hZ : Z = [] ∨ zt Z) (hz : Z.length ≤ 6) (hg : (mT (cl h m s) && (decide (Z = []) || mZ Z)) = false) (hS : S = DAY ++ txt [c] ++ TD ++ txt Z) (w : World) :
    Calls Tryd.prog 15 #[.string S, .int .i64 9] w fun e w' => e = .returned (.bool true) ∧ Below w.heap.size w w' :=
  lfails_is w (by rw [hS]; exact day_is hTD) (day_len9 hk hz) (by rw [r_zone (cl_len h m s) (cl_clk h m s) (.inr (fl_ft p k)) hZ hc, hg, if_neg (by simp)])
theorem ia_is {c : UInt8} {Z U : List UInt8} {S W TD WT : ByteArray} (hTD : TD = txt (tdl h m s p k)) (hWT : WT = txt (wtl h m s p k)) (hk : k ≤ 8) (hc : sp (c.toNat : Int) = true) (hZ : Z = [] ∨ zt Z) (hz : Z.length ≤ 6) (hU : U = Z.map up) (hg : (mT (cl h m s) && (decide (Z = []) || mZ Z)) = true)
    (hS : S = DAY ++ txt [c] ++ TD ++ txt Z) (hW : W = DAY ++ txt [84] ++ WT ++ txt U) (w : World) :
    Calls Tryd.prog 18 #[.string S, .string W] w fun e w' => e = .returned (.bool true) ∧ Below w.heap.size w w' :=
  lis_is w (by rw [hS]; exact day_is hTD) (by rw [hW]; exact day_w hWT) (day_len9 hk hz) (by rw [r_zone (cl_len h m s) (cl_clk h m s) (.inr (fl_ft p k)) hZ hc, hg, if_pos rfl, hU])
theorem oa_is {Z U : List UInt8} {W WT : ByteArray} {n : Int} (hWT : WT = txt (wtl h m s p k)) (hk : k ≤ 8) (hZ : Z = [] ∨ zt Z) (hz : Z.length ≤ 6) (hU : U = Z.map up) (hg : mT (cl h m s) = true) (hg2 : (decide (Z = []) || mZ Z) = true) (hn : n = if Z = [] then 3 else 4)
    (hW : W = DAY ++ txt [84] ++ WT ++ txt U) (w : World) :
    Calls Tryd.prog 10 #[.string W] w fun e w' => e = .returned (.int .u8 n) ∧ Below w.heap.size w w' :=
  Of_is w (by rw [hW]; exact day_w hWT) (day_len8 hk (by rw [hU, List.length_map]; exact hz)) (by
    rw [hU, o_day (cl_len h m s) (cl_clk h m s) (.inr (fl_ft p k)) hZ hg hg2, hn]
    split <;> rfl)
theorem fb_is {c : UInt8} {a b : Nat} {S TD : ByteArray} (hTD : TD = txt (tdl h m s p k)) (hk : k ≤ 8) (hc : c = 43 ∨ c = 45) (hS : S = TD ++ txt (zl c a b)) (w : World) :
    Calls Tryd.prog 15 #[.string S, .int .i64 3] w fun e w' => e = .returned (.bool true) ∧ Below w.heap.size w w' :=
  lfails_is (l := cl h m s ++ (fl p k ++ zl c a b)) w (by rw [hS, hTD, txt_app, tdl]; congr 1; try simp)
    (by
      have e2 : (fl p k).length = 7 + k := by rw [fl, List.length_cons, List.length_append, nml_len, List.length_replicate]; omega
      have e3 : (zl c a b).length = 6 := rfl
      simp only [List.length_append, cl_len, e2, e3]; omega)
    (r_bad (cl_len h m s) (cl_clk h m s) (fl_ft p k) (zl_zt hc a b))
theorem app_nil (S : ByteArray) : S = S ++ txt [] := (ByteArray.append_empty (b := S)).symm
end
theorem zn_txt {c : UInt8} {a b : Nat} {Sa Sb ZN : ByteArray} (ha : Sa = txt (nml a 2)) (hb : Sb = txt (nml b 2)) (hZ : ZN = Sa ++ ⟨#[58]⟩ ++ Sb) : txt [c] ++ ZN = txt (zl c a b) := by
  rw [hZ, ha, hb, show (⟨#[58]⟩ : ByteArray) = txt [58] from rfl, txt_app, txt_app, txt_app, zl]; congr 1; try simp
end Da
end Go.Proofs.YtgmlbcdakblpiaaDoor
