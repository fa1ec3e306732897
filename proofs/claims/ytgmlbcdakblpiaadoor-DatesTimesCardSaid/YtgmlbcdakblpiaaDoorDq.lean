/- What landed: a time, and a zone, cut off. -/
import Derived.Test.YtgmlbcdakblpiaaDoorDp
namespace Go.Proofs.YtgmlbcdakblpiaaDoor
open Go.RowKit
namespace Da

theorem toList_txt (l : List UInt8) : (txt l).toList = l := by rw [Lib.toList_data]; rfl
theorem txt_empty {s : ByteArray} {O : List UInt8} (h : s = txt O) : s.toList.isEmpty = decide (O = []) := by
  rw [h, toList_txt]
  cases O <;> simp
/-- What a time is cut to. -/
def cT (l : List UInt8) : List UInt8 := if clk l 0 = true then l.take 8 else []
def cF (l : List UInt8) : List UInt8 := if clk l 0 = true then (l.drop 8).take (frc l 8) else []
def cR (l : List UInt8) : List UInt8 := if clk l 0 = true then l.drop (8 + frc l 8) else l
theorem cutL_T (l : List UInt8) : cutL [TF] l = if clk l 0 = true then (l.take 8, l.drop 8) else ([], l) := by
  rw [cutL, bgs_T]; rfl
theorem cutL_D (l : List UInt8) : cutL [DF] l = if dte l = true then (l.take 10, l.drop 10) else ([], l) := by
  rw [cutL, bgs_D]; rfl
theorem cutL_Z (l : List UInt8) : cutL [EF, WF] l = if zs l 0 = true then (l.take 6, l.drop 6) else ([], l) := by
  rw [cutL, cutL, ← bgs_EW]
  cases bgs EF l <;> cases bgs WF l <;> rfl
abbrev sl1 (a : ByteArray) : Obj := .cells #[.string a] 9
abbrev sl2 (a b : ByteArray) : Obj := .cells #[.string a, .string b] 9
theorem one_cells {w : World} {f : List UInt8} : ∀ i g, ([f] : List (List UInt8))[i]? = some g → (w.alloc (sl1 (txt f))).cell? ⟨w.heap.size, i, none⟩ = some (.string (txt g)) := fun i g h => by
  match i, h with
  | 0, h => obtain rfl : f = g := by simpa using h
            simp [go_sem]
  | n + 1, h => simp at h
theorem two_cells {w : World} {f f' : List UInt8} : ∀ i g, ([f, f'] : List (List UInt8))[i]? = some g → (w.alloc (sl2 (txt f) (txt f'))).cell? ⟨w.heap.size, i, none⟩ = some (.string (txt g)) := fun i g h => by
  match i, h with
  | 0, h => obtain rfl : f = g := by simpa using h
            simp [go_sem]
  | 1, h => obtain rfl : f' = g := by simpa using h
            simp [go_sem]
  | n + 2, h => simp at h
theorem alloc_lt (w : World) (o : Obj) : w.heap.size < (w.alloc o).heap.size := by show _ < (w.heap.push o).size; simp
theorem cut1_is {l f : List UInt8} {s X Y : ByteArray} (w : World) (hs : s = txt l) (hl : l.length ≤ 1000000) (hf : f.length ≤ 100 ∧ fb f) (hX : X = txt (cutL [f] l).1) (hY : Y = txt (cutL [f] l).2) :
    Calls Tryd.prog 44 #[.string s, .slice (some ⟨w.heap.size, 0, none⟩) 1 1] (w.alloc (sl1 (txt f))) fun e w' => e = .returned (.tuple #[.string X, .string Y]) ∧ Below w.heap.size w w' :=
  (cut_is (fs := [f]) (n := 1) _ hs hl (fun g hg => by obtain rfl : g = f := by simpa using hg
                                                       exact hf) (by simp) (alloc_lt _ _) one_cells rfl hX hY).mono fun _ _ ⟨h1, h2⟩ => ⟨h1, below_tr ((Below.refl _ _).alloc (Nat.le_refl _) _) h2⟩
theorem cut2_is {l f f' : List UInt8} {s X Y : ByteArray} (w : World) (hs : s = txt l) (hl : l.length ≤ 1000000) (hf : f.length ≤ 100 ∧ fb f) (hf' : f'.length ≤ 100 ∧ fb f') (hX : X = txt (cutL [f, f'] l).1) (hY : Y = txt (cutL [f, f'] l).2) :
    Calls Tryd.prog 44 #[.string s, .slice (some ⟨w.heap.size, 0, none⟩) 2 2] (w.alloc (sl2 (txt f) (txt f'))) fun e w' => e = .returned (.tuple #[.string X, .string Y]) ∧ Below w.heap.size w w' :=
  (cut_is (fs := [f, f']) (n := 2) _ hs hl (fun g hg => by
    rcases (by simpa using hg : g = f ∨ g = f') with rfl | rfl
    · exact hf
    · exact hf') (by simp) (alloc_lt _ _) two_cells rfl hX hY).mono fun _ _ ⟨h1, h2⟩ => ⟨h1, below_tr ((Below.refl _ _).alloc (Nat.le_refl _) _) h2⟩
theorem run_zero {r : List UInt8} (h : run (r.drop 1) = 0) : dd r 1 = false := by
  rw [run_at] at h
  cases hd : dd r 1
  · rfl
  · rw [hd, if_pos rfl] at h; omega
set_option maxHeartbeats 4000000 in
set_option maxRecDepth 100000 in
theorem cutTime_is {l : List UInt8} {s X Y R : ByteArray} (w : World) (hs : s = txt l) (hl : l.length ≤ 1000000) (hX : X = txt (cT l)) (hY : Y = txt (cF l)) (hR : R = txt (cR l)) :
    Calls Tryd.prog 45 #[.string s] w fun e w' => e = .returned (.tuple #[.string X, .string Y, .string R]) ∧ Below w.heap.size w w' := by
  obtain ⟨T, hT⟩ : ∃ T, T = txt (cutL [TF] l).1 := ⟨_, rfl⟩
  obtain ⟨U, hU⟩ : ∃ U, U = txt (cutL [TF] l).2 := ⟨_, rfl⟩
  have C1 := Lib.hid (cut1_is w hs hl ⟨by decide, fbT⟩ hT hU)
  rw [cutL_T] at hT hU
  unfold cT at hX
  unfold cF at hY
  unfold cR at hR
  cases hk : clk l 0
  · rw [hk, if_neg (by simp)] at hT hU hX hY hR
    have he := txt_empty hT
    simp only [decide_true] at he
    have E := Lib.hid (show X = T ∧ Y = ⟨#[]⟩ ∧ R = U from ⟨by rw [hX, hT], by rw [hY]; rfl, by rw [hR, hU]⟩)
    clear hs hl hX hY hR hT hU hk
    go_enter Tryd.func45, Tryd.ntmps45
    go_wp2_with fail
    refine C1.out.mono ?_
    rintro e w1 ⟨rfl, hb⟩
    have HB := Lib.hid hb
    clear hb
    go_wp2_with fail
    refine bodyPost_ret (v := .tuple #[.string T, .string ⟨#[]⟩, .string U]) (by simp [results, Tryd.results45, go_sem, *]) rfl ?_
    exact ⟨by rw [E.out.1, E.out.2.1, E.out.2.2], HB.out⟩
  · rw [hk, if_pos rfl] at hT hU hX hY hR
    have hin := clk_in hk
    obtain ⟨r, hr⟩ : ∃ r, r = l.drop 8 := ⟨_, rfl⟩
    simp only at hT hU
    rw [← hr] at hU hY
    have hb0 : bt l 8 = bt r 0 := by rw [hr, bt_drop]
    have hfr : frc l 8 = frc r 0 := by rw [hr, frc_dr]
    have hdr : l.drop (8 + frc l 8) = r.drop (frc l 8) := by rw [hr, List.drop_drop]
    rw [hdr, hfr] at hR
    rw [hfr] at hY
    have he := txt_empty hT
    rw [decide_eq_false (show ¬ l.take 8 = [] from fun h => by have := congrArg List.length h; rw [List.length_take, List.length_nil] at this; omega)] at he
    have heu := txt_empty hU
    have zu : U.size = r.length := by rw [hU, txt_size]
    have hrl : r.length ≤ 1000000 := by rw [hr, List.length_drop]; omega
    have husz : U.size ≤ 1000000 := by omega
    have HXT := Lib.hid (show X = T by rw [hX, hT])
    have HU := Lib.hid hU
    have HZ := Lib.hid zu
    have NOF := Lib.hid (show frc r 0 = 0 → Y = ⟨#[]⟩ ∧ R = U from fun h => by rw [h] at hY hR; exact ⟨by rw [hY]; rfl, by rw [hR, hU]; rfl⟩)
    have YESF := Lib.hid (And.intro hY hR)
    clear hs hl hX hY hR hT hU hk hin hb0 hfr hdr zu hrl hr
    by_cases hre : r = []
    · have E := Lib.hid (NOF.out (by rw [hre]; rfl))
      rw [decide_eq_true hre] at heu
      clear hre YESF NOF
      go_enter Tryd.func45, Tryd.ntmps45
      go_wp2_with fail
      refine C1.out.mono ?_
      rintro e w1 ⟨rfl, hb⟩
      have HB := Lib.hid hb
      clear hb
      go_wp2_with fail
      refine bodyPost_ret (v := .tuple #[.string T, .string ⟨#[]⟩, .string U]) (by simp [results, Tryd.results45, go_sem, *]) rfl ?_
      exact ⟨by rw [HXT.out, E.out.1, E.out.2], HB.out⟩
    · have h1 : 1 ≤ r.length := List.length_pos_iff.2 hre
      have h1u : 0 < U.size := by rw [HZ.out]; exact h1
      have hx := txt_at HU.out (k := 0)
      obtain ⟨x, hxx⟩ : ∃ x, x = bt r 0 := ⟨_, rfl⟩
      rw [← hxx] at hx
      rw [decide_eq_false hre] at heu
      have H1 := Lib.hid h1
      clear hre h1
      by_cases h46 : x = 46
      · have HXX := Lib.hid (show bt r 0 = 46 by rw [← hxx]; exact h46)
        subst h46
        clear hxx
        go_enter Tryd.func45, Tryd.ntmps45
        go_wp2_with fail
        refine C1.out.mono ?_
        rintro e w1 ⟨rfl, hb⟩
        have HB := Lib.hid hb
        clear hb
        go_wp2_with fail
        clear hx
        go_loop [5] (fun j => ∃ k : Nat, 1 ≤ k ∧ k ≤ U.size ∧ j = .int .i64 k ∧ Hid (1 + run (r.drop 1) = k + run (r.drop k))) (fun j => U.size - (intOf j).toNat)
        case atStart => exact ⟨1, Nat.le_refl _, h1u, rfl, Lib.hid rfl⟩
        case round =>
          obtain ⟨k, hk1, hk, rfl, HR⟩ := hrel
          have FIN : Hid (dd r k = false → 1 + run (r.drop 1) = k) := Lib.hid (fun h => by
            have := HR.out; rw [run_at (k := k), h, if_neg (by simp)] at this; omega)
          have DONE : Hid (dd r k = false → (k = 1 → Y = ⟨#[]⟩ ∧ R = U) ∧ (k ≠ 1 → Y = U.extract 0 k ∧ R = U.extract k U.size)) := Lib.hid (fun h => by
            have h1 := FIN.out h
            refine ⟨fun hk => NOF.out ?_, fun hk => ?_⟩
            · have := run_zero (r := r) (by omega)
              rw [frc, if_neg (by rw [this]; simp)]
            · have hd : dd r 1 = true := by
                cases hd : dd r 1
                · rw [run_at, hd, if_neg (by simp)] at h1; omega
                · rfl
              have hf : frc r 0 = k := by
                rw [frc, if_pos ⟨HXX.out, hd⟩]; simp only [Nat.zero_add]; omega
              rw [YESF.out.1, YESF.out.2, hf, HU.out, txt_take, txt_drop]
              exact ⟨rfl, rfl⟩)
          by_cases hlt : k < U.size
          · have hy := txt_at HU.out (k := k)
            obtain ⟨y, hyy⟩ : ∃ y, y = bt r k := ⟨_, rfl⟩
            rw [← hyy] at hy
            have hdd : dd r k = dg y := by unfold dd; rw [hyy]
            have CD := Lib.hid (fun w => isd_is (c := y) w rfl)
            cases hd : dg y
            · rw [hd] at CD
              have D := Lib.hid (DONE.out (by rw [hdd, hd]))
              clear hdd hd hyy DONE FIN HR
              by_cases hke : k = 1
              · have E := Lib.hid (D.out.1 hke)
                subst hke
                go_wp2_with (go_at_call 65; refine (CD.out _).mono ?_; rintro e w' ⟨rfl, rfl⟩)
                refine bodyPost_ret (v := .tuple #[.string T, .string ⟨#[]⟩, .string U]) (by simp [results, Tryd.results45, go_sem, *]) rfl ?_
                exact ⟨by rw [HXT.out, E.out.1, E.out.2], HB.out⟩
              · have E := Lib.hid (D.out.2 hke)
                have hke' : ((k : Int) == 1) = false := by simp; omega
                clear hke
                go_upto_region 9 with (go_at_call 65; refine (CD.out _).mono ?_; rintro e w' ⟨rfl, rfl⟩)
                go_quiet (fail)
                go_wp2_with fail
                refine bodyPost_ret (v := .tuple #[.string T, .string (U.extract 0 k), .string (U.extract k U.size)]) (by simp [results, Tryd.results45, go_sem, *]) rfl ?_
                exact ⟨by rw [HXT.out, E.out.1, E.out.2], below_dn HB.out _⟩
            · rw [hd] at CD
              have HR2 := Lib.hid (show 1 + run (r.drop 1) = k + 1 + run (r.drop (k + 1)) by
                have := HR.out; rw [run_at (k := k), hdd, hd, if_pos rfl] at this; omega)
              clear hdd hd hyy DONE FIN HR
              go_wp2_with (go_at_call 65; refine (CD.out _).mono ?_; rintro e w' ⟨rfl, rfl⟩)
              go_round
              case rel => exact ⟨k + 1, by omega, by omega, by go_num, HR2⟩
              case measure => simp [intOf]; omega
          · have D := Lib.hid (DONE.out (by
              cases hd : dd r k
              · rfl
              · have := dd_in hd; rw [← HZ.out] at this; exact absurd this hlt))
            clear DONE FIN HR
            by_cases hke : k = 1
            · have E := Lib.hid (D.out.1 hke)
              subst hke
              go_wp2_with fail
              refine bodyPost_ret (v := .tuple #[.string T, .string ⟨#[]⟩, .string U]) (by simp [results, Tryd.results45, go_sem, *]) rfl ?_
              exact ⟨by rw [HXT.out, E.out.1, E.out.2], HB.out⟩
            · have E := Lib.hid (D.out.2 hke)
              have hke' : ((k : Int) == 1) = false := by simp; omega
              clear hke
              go_upto_region 9 with fail
              go_quiet (fail)
              go_wp2_with fail
              refine bodyPost_ret (v := .tuple #[.string T, .string (U.extract 0 k), .string (U.extract k U.size)]) (by simp [results, Tryd.results45, go_sem, *]) rfl ?_
              exact ⟨by rw [HXT.out, E.out.1, E.out.2], below_dn HB.out _⟩
      · have E := Lib.hid (NOF.out (by rw [frc, if_neg (by rw [← hxx]; simp [h46])]))
        have hne : (x == 46) = false := by simpa using h46
        clear hxx h46 YESF NOF
        go_enter Tryd.func45, Tryd.ntmps45
        go_wp2_with fail
        refine C1.out.mono ?_
        rintro e w1 ⟨rfl, hb⟩
        have HB := Lib.hid hb
        clear hb
        go_wp2_with fail
        refine bodyPost_ret (v := .tuple #[.string T, .string ⟨#[]⟩, .string U]) (by simp [results, Tryd.results45, go_sem, *]) rfl ?_
        exact ⟨by rw [HXT.out, E.out.1, E.out.2], HB.out⟩
set_option maxHeartbeats 4000000 in
set_option maxRecDepth 100000 in
theorem cutZone_is {l : List UInt8} {s Z R : ByteArray} (w : World) (hs : s = txt l) (hl : l.length ≤ 1000000) (hZ : Z = txt (l.take (zn l 0))) (hR : R = txt (l.drop (zn l 0))) :
    Calls Tryd.prog 47 #[.string s] w fun e w' => e = .returned (.tuple #[.string Z, .string R]) ∧ Below w.heap.size w w' := by
  have he := txt_empty hs
  have hsz : s.size ≤ 1000000 := by rw [hs, txt_size]; omega
  by_cases h1 : zc (bt l 0) = true
  · have hz : zn l 0 = 1 := by rw [zn, if_pos h1]
    have hb : bt l 0 = 90 ∨ bt l 0 = 122 := by unfold zc at h1; exact of_decide_eq_true h1
    have hlen : 0 < l.length := bt_in (by omega)
    have hs0 : 0 < s.size := by rw [hs, txt_size]; exact hlen
    rw [decide_eq_false (List.ne_nil_of_length_pos hlen)] at he
    have hx := txt_at hs (k := 0)
    have E := Lib.hid (show s.extract 0 1 = Z ∧ s.extract 1 s.size = R by rw [hZ, hR, hz, hs, txt_take, txt_drop]; exact ⟨rfl, rfl⟩)
    clear hs hl hZ hR hz hlen h1
    rcases hb with hb | hb
    · rw [hb] at hx
      clear hb
      go_enter Tryd.func47, Tryd.ntmps47
      go_upto_region 2 with fail
      go_quiet (fail)
      go_wp2_with fail
      go_ret2
      exact ⟨by rw [← E.out.1, ← E.out.2]; rfl, below_dn (Below.refl _ _) _⟩
    · rw [hb] at hx
      clear hb
      go_enter Tryd.func47, Tryd.ntmps47
      go_upto_region 2 with fail
      go_quiet (fail)
      go_wp2_with fail
      go_ret2
      exact ⟨by rw [← E.out.1, ← E.out.2]; rfl, below_dn (Below.refl _ _) _⟩
  · have C2 := Lib.hid (cut2_is (X := Z) (Y := R) w hs hl ⟨by decide, fbE⟩ ⟨by decide, fbW⟩
      (by rw [hZ, cutL_Z, zn, if_neg h1]; split <;> rfl) (by rw [hR, cutL_Z, zn, if_neg h1]; split <;> rfl))
    by_cases hle : l = []
    · rw [decide_eq_true hle] at he
      clear hs hl hZ hR h1 hle
      go_enter Tryd.func47, Tryd.ntmps47
      go_wp2_with fail
      refine C2.out.mono ?_
      rintro e w1 ⟨rfl, hb⟩
      have HB := Lib.hid hb
      clear hb
      go_wp2_with fail
      go_ret2
      exact ⟨rfl, HB.out⟩
    · rw [decide_eq_false hle] at he
      have hs0 : 0 < s.size := by rw [hs, txt_size]; exact List.length_pos_iff.2 hle
      have hx := txt_at hs (k := 0)
      obtain ⟨x, hxx⟩ : ∃ x, x = bt l 0 := ⟨_, rfl⟩
      rw [← hxx] at hx h1
      have h90 : ¬ x = 90 := fun e => h1 (by rw [e]; rfl)
      have h122 : ¬ x = 122 := fun e => h1 (by rw [e]; rfl)
      have h90' : (x == 90) = false := by simpa using h90
      have h122' : (x == 122) = false := by simpa using h122
      clear hs hl hZ hR h1 hle hxx h90 h122
      go_enter Tryd.func47, Tryd.ntmps47
      go_wp2_with fail
      refine C2.out.mono ?_
      rintro e w1 ⟨rfl, hb⟩
      have HB := Lib.hid hb
      clear hb
      go_wp2_with fail
      go_ret2
      exact ⟨rfl, HB.out⟩
end Da
end Go.Proofs.YtgmlbcdakblpiaaDoor
