/- The law of the order, walked. -/
import Derived.Test.YtonfaphllpjmpaaDoorInS
import Derived.Test.YtonfaphllpjmpaaDoorInW
namespace Go.Proofs.YtonfaphllpjmpaaDoor
open Go.RowKit

theorem nan_any (a : Int) (w : World) : Calls Tryd.prog 41 #[.int .i64 a] w fun e w' => e = .returned (.bool false) ∧ w = w' := by
  go_enter Tryd.func41, Tryd.ntmps41
  go_wp2_with fail
  go_ret
  exact ⟨rfl, rfl⟩
theorem compare_any (a b : Int) (w : World) : Calls Tryd.prog 21 #[.int .i64 a, .int .i64 b] w fun e w' => e = .returned (.int .i64 (In.sgn a b)) ∧ w = w' := by
  obtain ⟨c, HC⟩ : ∃ c, Hid (c = In.sgn a b) := ⟨_, Lib.hid rfl⟩
  rw [← HC.out]
  have HA := Lib.hid (nan_any a)
  have HB := Lib.hid (nan_any b)
  by_cases h1 : a < b
  · obtain rfl : c = -1 := by rw [HC.out, In.sgn, if_pos h1]
    go_enter Tryd.func21, Tryd.ntmps21
    go_wp2_with fail
    refine (HA.out _).mono ?_
    rintro e w1 ⟨rfl, rfl⟩
    go_wp2_with fail
    refine (HB.out _).mono ?_
    rintro e w1 ⟨rfl, rfl⟩
    go_wp2_with fail
    go_ret
    exact ⟨rfl, rfl⟩
  · by_cases h2 : b < a
    · obtain rfl : c = 1 := by rw [HC.out, In.sgn, if_neg h1, if_pos h2]
      go_enter Tryd.func21, Tryd.ntmps21
      go_wp2_with fail
      refine (HA.out _).mono ?_
      rintro e w1 ⟨rfl, rfl⟩
      go_wp2_with fail
      refine (HB.out _).mono ?_
      rintro e w1 ⟨rfl, rfl⟩
      go_wp2_with fail
      go_ret
      exact ⟨rfl, rfl⟩
    · obtain rfl : c = 0 := by rw [HC.out, In.sgn, if_neg h1, if_neg h2]
      obtain rfl : a = b := by omega
      go_enter Tryd.func21, Tryd.ntmps21
      go_wp2_with fail
      refine (HA.out _).mono ?_
      rintro e w1 ⟨rfl, rfl⟩
      go_wp2_with fail
      refine (HB.out _).mono ?_
      rintro e w1 ⟨rfl, rfl⟩
      go_wp2_with fail
      go_ret
      exact ⟨rfl, rfl⟩
theorem nfI_len {v : Int} (h : In.fits v) : (In.nfI v).length ≤ 21 := by rw [nfI_itoa]; exact Lib.itoa_length_le v h.1 h.2
theorem cm_left {l k : List UInt8} (h : In.nor l = false) : In.cm l k = 0 := by rw [In.cm, if_neg (by simp [h])]
theorem cm_right {l k : List UInt8} (h : In.nor k = false) : In.cm l k = 0 := by rw [In.cm, if_neg (by simp [h])]
set_option maxHeartbeats 8000000 in
set_option maxRecDepth 100000 in
theorem order_any (a b : Int) (ha : In.fits a) (hb : In.fits b) (w : World) (hT : Tab w) (hT10 : Tab10 w) : Calls Tryd.prog 7 #[.int .i64 a, .int .i64 b] w fun e w' => e = .returned (.bool true) ∧ Below w.heap.size w w' := by
  obtain ⟨X, hX⟩ : ∃ X, X = txt (In.nfI a) := ⟨_, rfl⟩
  obtain ⟨Y, hY⟩ : ∃ Y, Y = txt (In.nfI b) := ⟨_, rfl⟩
  have la := nfI_len ha
  have lb := nfI_len hb
  have hXs : X.size ≤ 21 := by rw [hX, txt_size]; exact la
  have hYs : Y.size ≤ 21 := by rw [hY, txt_size]; exact lb
  obtain ⟨Z, hZ⟩ : ∃ Z, (⟨#[43]⟩ : ByteArray) ++ X = Z := ⟨_, rfl⟩
  obtain ⟨V, hV⟩ : ∃ V, Y ++ (⟨#[48, 48, 48, 48, 48, 48, 48, 48, 48, 48, 48, 48, 48, 48, 48, 48, 48, 48, 48, 48, 48, 48]⟩ : ByteArray) = V := ⟨_, rfl⟩
  have hZ' : Z = txt (43 :: In.nfI a) := by rw [← hZ, hX, show (⟨#[43]⟩ : ByteArray) = txt [43] from rfl, txt_app]; rfl
  have hV' : V = txt (In.nfI b ++ List.replicate 22 48) := by rw [← hV, hY, show (⟨#[48, 48, 48, 48, 48, 48, 48, 48, 48, 48, 48, 48, 48, 48, 48, 48, 48, 48, 48, 48, 48, 48]⟩ : ByteArray) = txt (List.replicate 22 48) from rfl, txt_app]
  obtain ⟨p, hp⟩ : ∃ p, p = In.sgn a b := ⟨_, rfl⟩
  obtain ⟨q, hq⟩ : ∃ q, q = In.sgn b a := ⟨_, rfl⟩
  have F1 := Lib.hid (fun w h => fint10_any ha w h)
  have F2 := Lib.hid (fun w h => fint10_any hb w h)
  rw [← hX] at F1
  rw [← hY] at F2
  have C1 := Lib.hid (fun w h => pcmp_is (x := p) w hX hY (by omega) (by omega) (by rw [hp, In.cm_nfI ha hb]) h)
  have C2 := Lib.hid (fun w h => pcmp_is (x := q) w hY hX (by omega) (by omega) (by rw [hq, In.cm_nfI hb ha]) h)
  have C3 := Lib.hid (fun w h => pcmp_is (x := 0) w hZ' hY (by simp; omega) (by omega) (by rw [cm_left (In.nor_plus a)]) h)
  have C4 := Lib.hid (fun w h => pcmp_is (x := 0) (t := ⟨#[48, 120, 49]⟩) (k := [48, 120, 49]) w hX rfl (by omega) (by simp) (by rw [cm_right In.nor_0x1]) h)
  have C5 := Lib.hid (fun w h => pcmp_is (x := 0) w hX hV' (by omega) (by simp; omega) (by rw [cm_right (In.nor_zeros b)]) h)
  have C6 := Lib.hid (fun w h => pcmp_is (x := 0) (s := ⟨#[]⟩) (l := []) w rfl hX (by simp) (by omega) (by rw [cm_left In.nor_nil]) h)
  have K1 := Lib.hid (compare_any a b)
  have K2 := Lib.hid (compare_any b a)
  rw [← hp] at K1
  rw [← hq] at K2
  have HT := Lib.hid hT
  have HT10 := Lib.hid hT10
  have LV := Lib.hid lives_any
  have HB0 := Lib.hid (Below.refl w.heap.size w)
  clear hX hY la lb hZ' hV' hp hq ha hb hT hT10
  go_enter Tryd.func7, Tryd.ntmps7
  go_wp2_with fail
  refine (F1.out _ HT10.out).mono ?_
  rintro e w1 ⟨rfl, hb⟩
  have HB1 := Lib.hid (below_tr HB0.out hb)
  clear hb
  go_wp2_with fail
  refine (F2.out _ (HT10.out.below HB1.out)).mono ?_
  rintro e w2 ⟨rfl, hb⟩
  have HB2 := Lib.hid (below_tr HB1.out hb)
  clear hb
  go_wp2_with fail
  refine (C1.out _ (HT.out.below HB2.out)).mono ?_
  rintro e w3 ⟨rfl, hb⟩
  have HB3 := Lib.hid (below_tr HB2.out hb)
  clear hb
  go_wp2_with fail
  refine (K1.out _).mono ?_
  rintro e w4 ⟨rfl, rfl⟩
  go_wp2_with fail
  refine (C2.out _ (HT.out.below HB3.out)).mono ?_
  rintro e w5 ⟨rfl, hb⟩
  have HB5 := Lib.hid (below_tr HB3.out hb)
  clear hb
  go_wp2_with fail
  refine (K2.out _).mono ?_
  rintro e w6 ⟨rfl, rfl⟩
  go_wp2_with fail
  try rw [hZ]
  refine (C3.out _ (HT.out.below HB5.out)).mono ?_
  rintro e w7 ⟨rfl, hb⟩
  have HB7 := Lib.hid (below_tr HB5.out hb)
  clear hb
  go_wp2_with fail
  refine (C4.out _ (HT.out.below HB7.out)).mono ?_
  rintro e w8 ⟨rfl, hb⟩
  have HB8 := Lib.hid (below_tr HB7.out hb)
  clear hb
  go_wp2_with fail
  try rw [hV]
  refine (C5.out _ (HT.out.below HB8.out)).mono ?_
  rintro e w9 ⟨rfl, hb⟩
  have HB9 := Lib.hid (below_tr HB8.out hb)
  clear hb
  go_wp2_with fail
  refine (C6.out _ (HT.out.below HB9.out)).mono ?_
  rintro e w10 ⟨rfl, hb⟩
  have HB10 := Lib.hid (below_tr HB9.out hb)
  clear hb
  go_wp2_with fail
  refine (LV.out _ (HT.out.below HB10.out)).mono ?_
  rintro e w11 ⟨rfl, hb⟩
  have HB11 := Lib.hid (below_tr HB10.out hb)
  clear hb
  go_wp2_with fail
  go_ret
  exact ⟨rfl, HB11.out⟩
end Go.Proofs.YtonfaphllpjmpaaDoor
