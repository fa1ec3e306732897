/- What landed: a time, and a zone, cut off. -/
import Derived.Test.YtbeefjhcbphiaaaGreatDoorHy
import Derived.Test.YtbeefjhcbphiaaaGreatDoorShelfm
import Derived.OneCell
namespace Go.Proofs.YtbeefjhcbphiaaaGreatDoor
open Go.RowKit
namespace Da

theorem toList_txt (l : List UInt8) : (txt l).toList = l := by rw [Lib.toList_data]; rfl
theorem txt_empty {s : ByteArray} {O : List UInt8} (h : s = txt O) : s.toList.isEmpty = decide (O = []) := by
  rw [h, toList_txt]
  cases O <;> simp
/-- What a time is cut to. -/
def cT (l : List UInt8) : List UInt8 := if clk l 0 = true then l.take 8 else []
def cF (l : List UInt8) : List UInt8 := if clk l 0 = true then (l.drop 8).take (frc l 8) else []
def cR (l : List UInt8) : List UInt8 := if clk l 0 = true then l.drop (8 + frc l 8) else l
theorem cutL_T (l : List UInt8) : cutL [TF] l = if clk l 0 = true then (l.take 8, l.drop 8) else ([], l) := by
  rw [cutL, bgs_T]; rfl
theorem cutL_D (l : List UInt8) : cutL [DF] l = if dte l = true then (l.take 10, l.drop 10) else ([], l) := by
  rw [cutL, bgs_D]; rfl
theorem cutL_Z (l : List UInt8) : cutL [EF, WF] l = if zs l 0 = true then (l.take 6, l.drop 6) else ([], l) := by
  rw [cutL, cutL, ← bgs_EW]
  cases bgs EF l <;> cases bgs WF l <;> rfl
abbrev sl1 (a : ByteArray) : Obj := .cells #[.string a] 9
abbrev sl2 (a b : ByteArray) : Obj := .cells #[.string a, .string b] 9
theorem one_cells {w : World} {f : List UInt8} : ∀ i g, ([f] : List (List UInt8))[i]? = some g → (w.alloc (sl1 (txt f))).cell? ⟨w.heap.size, i, none⟩ = some (.string (txt g)) := fun i g h => by
  match i, h with
  | 0, h => obtain rfl : f = g := by simpa using h
            simp [go_sem]
  | n + 1, h => simp at h
theorem two_cells {w : World} {f f' : List UInt8} : ∀ i g, ([f, f'] : List (List UInt8))[i]? = some g → (w.alloc (sl2 (txt f) (txt f'))).cell? ⟨w.heap.size, i, none⟩ = some (.string (txt g)) := fun i g h => by
  match i, h with
  | 0, h => obtain rfl : f = g := by simpa using h
            simp [go_sem]
  | 1, h => obtain rfl : f' = g := by simpa using h
            simp [go_sem]
  | n + 2, h => simp at h
theorem alloc_lt (w : World) (o : Obj) : w.heap.size < (w.alloc o).heap.size := by show _ < (w.heap.push o).size; simp
theorem cut1_is {l f : List UInt8} {s X Y : ByteArray} (w : World) (hs : s = txt l) (hl : l.length ≤ 1000000) (hf : f.length ≤ 100 ∧ fb f) (hX : X = txt (cutL [f] l).1) (hY : Y = txt (cutL [f] l).2) :
    Calls Tryz.prog 149 #[.string s, .slice (some ⟨w.heap.size, 0, none⟩) 1 1] (w.alloc (sl1 (txt f))) fun e w' => e = .returned (.tuple #[.string X, .string Y]) ∧ Below w.heap.size w w' :=
  (cut_is (fs := [f]) (n := 1) _ hs hl (fun g hg => by obtain rfl : g = f := by simpa using hg
                                                       exact hf) (by simp) (alloc_lt _ _) one_cells rfl hX hY).mono fun _ _ ⟨h1, h2⟩ => ⟨h1, below_tr ((Below.refl _ _).alloc (Nat.le_refl _) _) h2⟩
theorem cut2_is {l f f' : List UInt8} {s X Y : ByteArray} (w : World) (hs : s = txt l) (hl : l.length ≤ 1000000) (hf : f.length ≤ 100 ∧ fb f) (hf' : f'.length ≤ 100 ∧ fb f') (hX : X = txt (cutL [f, f'] l).1) (hY : Y = txt (cutL [f, f'] l).2) :
    Calls Tryz.prog 149 #[.string s, .slice (some ⟨w.heap.size, 0, none⟩) 2 2] (w.alloc (sl2 (txt f) (txt f'))) fun e w' => e = .returned (.tuple #[.string X, .string Y]) ∧ Below w.heap.size w w' :=
  (cut_is (fs := [f, f']) (n := 2) _ hs hl (fun g hg => by
    rcases (by simpa using hg : g = f ∨ g = f') with rfl | rfl
    · exact hf
    · exact hf') (by simp) (alloc_lt _ _) two_cells rfl hX hY).mono fun _ _ ⟨h1, h2⟩ => ⟨h1, below_tr ((Below.refl _ _).alloc (Nat.le_refl _) _) h2⟩
theorem run_zero {r : List UInt8} (h : run (r.drop 1) = 0) : dd r 1 = false := by
  rw [run_at] at h
  cases hd : dd r 1
  · rfl
  · rw [hd, if_pos rfl] at h; omega
set_option maxHeartbeats 4000000 in
set_option maxRecDepth 100000 in
theorem cutTime_is {l : List UInt8} {s X Y R : ByteArray} (w : World) (hs : s = txt l) (hl : l.length ≤ 1000000) (hX : X = txt (cT l)) (hY : Y = txt (cF l)) (hR : R = txt (cR l)) :
    Calls Tryz.prog 150 #[.string s] w fun e w' => e = .returned (.tuple #[.string X, .string Y, .string R]) ∧ Below w.heap.size w w' := by
  obtain ⟨T, hT⟩ : ∃ T, T = txt (cutL [TF] l).1 := ⟨_, rfl⟩
  obtain ⟨U, hU⟩ : ∃ U, U = txt (cutL [TF] l).2 := ⟨_, rfl⟩
  have C1 := Lib.hid (cut1_is w hs hl ⟨by decide, fbT⟩ hT hU)
  rw [cutL_T] at hT hU
  unfold cT at hX
  unfold cF at hY
  unfold cR at hR
  cases hk : clk l 0
  · rw [hk, if_neg (by simp)] at hT hU hX hY hR
    have he := txt_empty hT
    simp only [decide_true] at he
    have E := Lib.hid (show X = T ∧ Y = ⟨#[]⟩ ∧ R = U from ⟨by rw [hX, hT], by rw [hY]; rfl, by rw [hR, hU]⟩)
    clear hs hl hX hY hR hT hU hk
    go_enter Tryz.func150, Tryz.ntmps150
    go_wp2_with fail
    refine C1.out.mono ?_
    rintro e w1 ⟨rfl, hb⟩
    have HB := Lib.hid hb
    clear hb
    go_wp2_with fail
    refine bodyPost_ret (v := .tuple #[.string T, .string ⟨#[]⟩, .string U]) (by simp [results, Tryz.results150, go_sem, *]) rfl ?_
    exact ⟨by rw [E.out.1, E.out.2.1, E.out.2.2], HB.out⟩
  · rw [hk, if_pos rfl] at hT hU hX hY hR
    have hin := clk_in hk
    obtain ⟨r, hr⟩ : ∃ r, r = l.drop 8 := ⟨_, rfl⟩
    simp only at hT hU
    rw [← hr] at hU hY
    have hb0 : bt l 8 = bt r 0 := by rw [hr, bt_drop]
    have hfr : frc l 8 = frc r 0 := by rw [hr, frc_dr]
    have hdr : l.drop (8 + frc l 8) = r.drop (frc l 8) := by rw [hr, List.drop_drop]
    rw [hdr, hfr] at hR
    rw [hfr] at hY
    have he := txt_empty hT
    rw [decide_eq_false (show ¬ l.take 8 = [] from fun h => by have := congrArg List.length h; rw [List.length_take, List.length_nil] at this; omega)] at he
    have heu := txt_empty hU
    have zu : U.size = r.length := by rw [hU, txt_size]
    have hrl : r.length ≤ 1000000 := by rw [hr, List.length_drop]; omega
    have husz : U.size ≤ 1000000 := by omega
    have HXT := Lib.hid (show X = T by rw [hX, hT])
    have HU := Lib.hid hU
    have HZ := Lib.hid zu
    have NOF := Lib.hid (show frc r 0 = 0 → Y = ⟨#[]⟩ ∧ R = U from fun h => by rw [h] at hY hR; exact ⟨by rw [hY]; rfl, by rw [hR, hU]; rfl⟩)
    have YESF := Lib.hid (And.intro hY hR)
    clear hs hl hX hY hR hT hU hk hin hb0 hfr hdr zu hrl hr
    by_cases hre : r = []
    · have E := Lib.hid (NOF.out (by rw [hre]; rfl))
      rw [decide_eq_true hre] at heu
      clear hre YESF NOF
      go_enter Tryz.func150, Tryz.ntmps150
      go_wp2_with fail
      refine C1.out.mono ?_
      rintro e w1 ⟨rfl, hb⟩
      have HB := Lib.hid hb
      clear hb
      go_wp2_with fail
      refine bodyPost_ret (v := .tuple #[.string T, .string ⟨#[]⟩, .string U]) (by simp [results, Tryz.results150, go_sem, *]) rfl ?_
      exact ⟨by rw [HXT.out, E.out.1, E.out.2], HB.out⟩
    · have h1 : 1 ≤ r.length := List.length_pos_iff.2 hre
      have h1u : 0 < U.size := by rw [HZ.out]; exact h1
      have hx := txt_at HU.out (k := 0)
      obtain ⟨x, hxx⟩ : ∃ x, x = bt r 0 := ⟨_, rfl⟩
      rw [← hxx] at hx
      rw [decide_eq_false hre] at heu
      have H1 := Lib.hid h1
      clear hre h1
      by_cases h46 : x = 46
      · have HXX := Lib.hid (show bt r 0 = 46 by rw [← hxx]; exact h46)
        subst h46
        clear hxx
        go_enter Tryz.func150, Tryz.ntmps150
        go_wp2_with fail
        refine C1.out.mono ?_
        rintro e w1 ⟨rfl, hb⟩
        have HB := Lib.hid hb
        clear hb
        go_wp2_with fail
        clear hx
        go_loop [5] (fun j => ∃ k : Nat, 1 ≤ k ∧ k ≤ U.size ∧ j = .int .i64 k ∧ Hid (1 + run (r.drop 1) = k + run (r.drop k))) (fun j => U.size - (intOf j).toNat)
        case atStart => exact ⟨1, Nat.le_refl _, h1u, rfl, Lib.hid rfl⟩
        case round =>
          obtain ⟨k, hk1, hk, rfl, HR⟩ := hrel
          have FIN : Hid (dd r k = false → 1 + run (r.drop 1) = k) := Lib.hid (fun h => by
            have := HR.out; rw [run_at (k := k), h, if_neg (by simp)] at this; omega)
          have DONE : Hid (dd r k = false → (k = 1 → Y = ⟨#[]⟩ ∧ R = U) ∧ (k ≠ 1 → Y = U.extract 0 k ∧ R = U.extract k U.size)) := Lib.hid (fun h => by
            have h1 := FIN.out h
            refine ⟨fun hk => NOF.out ?_, fun hk => ?_⟩
            · have := run_zero (r := r) (by omega)
              rw [frc, if_neg (by rw [this]; simp)]
            · have hd : dd r 1 = true := by
                cases hd : dd r 1
                · rw [run_at, hd, if_neg (by simp)] at h1; omega
                · rfl
              have hf : frc r 0 = k := by
                rw [frc, if_pos ⟨HXX.out, hd⟩]; simp only [Nat.zero_add]; omega
              rw [YESF.out.1, YESF.out.2, hf, HU.out, txt_take, txt_drop]
              exact ⟨rfl, rfl⟩)
          by_cases hlt : k < U.size
          · have hy := txt_at HU.out (k := k)
            obtain ⟨y, hyy⟩ : ∃ y, y = bt r k := ⟨_, rfl⟩
            rw [← hyy] at hy
            have hdd : dd r k = dg y := by unfold dd; rw [hyy]
            have CD := Lib.hid (fun w => isd_is (c := y) w rfl)
            cases hd : dg y
            · rw [hd] at CD
              have D := Lib.hid (DONE.out (by rw [hdd, hd]))
              clear hdd hd hyy DONE FIN HR
              by_cases hke : k = 1
              · have E := Lib.hid (D.out.1 hke)
                subst hke
                go_wp2_with (go_at_call 166; refine (CD.out _).mono ?_; rintro e w' ⟨rfl, rfl⟩)
                refine bodyPost_ret (v := .tuple #[.string T, .string ⟨#[]⟩, .string U]) (by simp [results, Tryz.results150, go_sem, *]) rfl ?_
                exact ⟨by rw [HXT.out, E.out.1, E.out.2], HB.out⟩
              · have E := Lib.hid (D.out.2 hke)
                have hke' : ((k : Int) == 1) = false := by simp; omega
                clear hke
                go_upto_region 9 with (go_at_call 166; refine (CD.out _).mono ?_; rintro e w' ⟨rfl, rfl⟩)
                go_quiet (fail)
                go_wp2_with fail
                refine bodyPost_ret (v := .tuple #[.string T, .string (U.extract 0 k), .string (U.extract k U.size)]) (by simp [results, Tryz.results150, go_sem, *]) rfl ?_
                exact ⟨by rw [HXT.out, E.out.1, E.out.2], below_dn HB.out _⟩
            · rw [hd] at CD
              have HR2 := Lib.hid (show 1 + run (r.drop 1) = k + 1 + run (r.drop (k + 1)) by
                have := HR.out; rw [run_at (k := k), hdd, hd, if_pos rfl] at this; omega)
              clear hdd hd hyy DONE FIN HR
              go_wp2_with (go_at_call 166; refine (CD.out _).mono ?_; rintro e w' ⟨rfl, rfl⟩)
              go_round
              case rel => exact ⟨k + 1, by omega, by omega, by go_num, HR2⟩
              case measure => simp [intOf]; omega
          · have D := Lib.hid (DONE.out (by
              cases hd : dd r k
              · rfl
              · have := dd_in hd; rw [← HZ.out] at this; exact absurd this hlt))
            clear DONE FIN HR
            by_cases hke : k = 1
            · have E := Lib.hid (D.out.1 hke)
              subst hke
              go_wp2_with fail
              refine bodyPost_ret (v := .tuple #[.string T, .string ⟨#[]⟩, .string U]) (by simp [results, Tryz.results150, go_sem, *]) rfl ?_
              exact ⟨by rw [HXT.out, E.out.1, E.out.2], HB.out⟩
            · have E := Lib.hid (D.out.2 hke)
              have hke' : ((k : Int) == 1) = false := by simp; omega
              clear hke
              go_upto_region 9 with fail
              go_quiet (fail)
              go_wp2_with fail
              refine bodyPost_ret (v := .tuple #[.string T, .string (U.extract 0 k), .string (U.extract k U.size)]) (by simp [results, Tryz.results150, go_sem, *]) rfl ?_
              exact ⟨by rw [HXT.out, E.out.1, E.out.2], below_dn HB.out _⟩
      · have E := Lib.hid (NOF.out (by rw [frc, if_neg (by rw [← hxx]; simp [h46])]))
        have hne : (x == 46) = false := by simpa using h46
        clear hxx h46 YESF NOF
        go_enter Tryz.func150, Tryz.ntmps150
        go_wp2_with fail
        refine C1.out.mono ?_
        rintro e w1 ⟨rfl, hb⟩
        have HB := Lib.hid hb
        clear hb
        go_wp2_with fail
        refine bodyPost_ret (v := .tuple #[.string T, .string ⟨#[]⟩, .string U]) (by simp [results, Tryz.results150, go_sem, *]) rfl ?_
        exact ⟨by rw [HXT.out, E.out.1, E.out.2], HB.out⟩
set_option maxHeartbeats 4000000 in
set_option maxRecDepth 100000 in
theorem cutZone_is {l : List UInt8} {s Z R : ByteArray} (w : World) (hs : s = txt l) (hl : l.length ≤ 1000000) (hZ : Z = txt (l.take (zn l 0))) (hR : R = txt (l.drop (zn l 0))) :
    Calls Tryz.prog 151 #[.string s] w fun e w' => e = .returned (.tuple #[.string Z, .string R]) ∧ Below w.heap.size w w' := by
  have he := txt_empty hs
  have hsz : s.size ≤ 1000000 := by rw [hs, txt_size]; omega
  by_cases h1 : zc (bt l 0) = true
  · have hz : zn l 0 = 1 := by rw [zn, if_pos h1]
    have hb : bt l 0 = 90 ∨ bt l 0 = 122 := by unfold zc at h1; exact of_decide_eq_true h1
    have hlen : 0 < l.length := bt_in (by omega)
    have hs0 : 0 < s.size := by rw [hs, txt_size]; exact hlen
    rw [decide_eq_false (List.ne_nil_of_length_pos hlen)] at he
    have hx := txt_at hs (k := 0)
    have E := Lib.hid (show s.extract 0 1 = Z ∧ s.extract 1 s.size = R by rw [hZ, hR, hz, hs, txt_take, txt_drop]; exact ⟨rfl, rfl⟩)
    clear hs hl hZ hR hz hlen h1
    rcases hb with hb | hb
    · rw [hb] at hx
      clear hb
      go_enter Tryz.func151, Tryz.ntmps151
      go_upto_region 2 with fail
      go_quiet (fail)
      go_wp2_with fail
      go_ret2
      exact ⟨by rw [← E.out.1, ← E.out.2]; rfl, below_dn (Below.refl _ _) _⟩
    · rw [hb] at hx
      clear hb
      go_enter Tryz.func151, Tryz.ntmps151
      go_upto_region 2 with fail
      go_quiet (fail)
      go_wp2_with fail
      go_ret2
      exact ⟨by rw [← E.out.1, ← E.out.2]; rfl, below_dn (Below.refl _ _) _⟩
  · have C2 := Lib.hid (cut2_is (X := Z) (Y := R) w hs hl ⟨by decide, fbE⟩ ⟨by decide, fbW⟩
      (by rw [hZ, cutL_Z, zn, if_neg h1]; split <;> rfl) (by rw [hR, cutL_Z, zn, if_neg h1]; split <;> rfl))
    by_cases hle : l = []
    · rw [decide_eq_true hle] at he
      clear hs hl hZ hR h1 hle
      go_enter Tryz.func151, Tryz.ntmps151
      go_wp2_with fail
      refine C2.out.mono ?_
      rintro e w1 ⟨rfl, hb⟩
      have HB := Lib.hid hb
      clear hb
      go_wp2_with fail
      go_ret2
      exact ⟨rfl, HB.out⟩
    · rw [decide_eq_false hle] at he
      have hs0 : 0 < s.size := by rw [hs, txt_size]; exact List.length_pos_iff.2 hle
      have hx := txt_at hs (k := 0)
      obtain ⟨x, hxx⟩ : ∃ x, x = bt l 0 := ⟨_, rfl⟩
      rw [← hxx] at hx h1
      have h90 : ¬ x = 90 := fun e => h1 (by rw [e]; rfl)
      have h122 : ¬ x = 122 := fun e => h1 (by rw [e]; rfl)
      have h90' : (x == 90) = false := by simpa using h90
      have h122' : (x == 122) = false := by simpa using h122
      clear hs hl hZ hR h1 hle hxx h90 h122
      go_enter Tryz.func151, Tryz.ntmps151
      go_wp2_with fail
      refine C2.out.mono ?_
      rintro e w1 ⟨rfl, hb⟩
      have HB := Lib.hid hb
      clear hb
      go_wp2_with fail
      go_ret2
      exact ⟨rfl, HB.out⟩
end Da
end Go.Proofs.YtbeefjhcbphiaaaGreatDoor
/- What landed: a text split into parts. -/
namespace Go.Proofs.YtbeefjhcbphiaaaGreatDoor
open Go.RowKit
namespace Da

theorem sp_ix : ∀ n, n < 256 → (decide (0 ≤ Lib.indexByte [84, 116, 32] (UInt8.ofNat n)) = sp (n : Int)) ∧ -1 ≤ Lib.indexByte [84, 116, 32] (UInt8.ofNat n) ∧ Lib.indexByte [84, 116, 32] (UInt8.ofNat n) ≤ 2 := by
  have : (List.range 256).all (fun n => decide ((decide (0 ≤ Lib.indexByte [84, 116, 32] (UInt8.ofNat n)) = sp (n : Int)) ∧ -1 ≤ Lib.indexByte [84, 116, 32] (UInt8.ofNat n) ∧ Lib.indexByte [84, 116, 32] (UInt8.ofNat n) ≤ 2)) = true := by decide +kernel
  intro n hn
  exact of_decide_eq_true ((List.all_eq_true.1 this) n (List.mem_range.2 hn))
theorem tsp_is {c : Int} (h0 : 0 ≤ c) (h1 : c ≤ 255) : ∃ y : Int, decide (0 ≤ y) = sp c ∧ -1 ≤ y ∧ y ≤ 2 ∧ ∀ w, Calls Tryz.prog 143 #[.string ⟨#[84, 116, 32]⟩, .int .u8 c] w fun e w' => e = .returned (.int .i64 y) ∧ w = w' := by
  obtain ⟨n, rfl⟩ : ∃ n : Nat, c = n := ⟨c.toNat, by omega⟩
  obtain ⟨e1, e2, e3⟩ := sp_ix n (by omega)
  refine ⟨_, e1, e2, e3, fun w => ?_⟩
  refine (Tryz.strings_IndexByte ⟨#[84, 116, 32]⟩ n w).mono ?_
  rintro e w' ⟨rfl, rfl⟩
  exact ⟨rfl, rfl⟩
/-- A date-time's text in parts. -/
abbrev wv (a b c d : ByteArray) : Value := .agg #[.string a, .string b, .string c, .string d]
abbrev wo (a b c d : ByteArray) : Obj := .cells #[.string a, .string b, .string c, .string d] 199
/-- The parts lie in W's next block; nothing that W had has turned. -/
def PW (W w : World) (a b c d : ByteArray) : Prop := Below W.heap.size W w ∧ w.heap[W.heap.size]? = some (wo a b c d)
section
variable {W w w' : World} {a b c d a' b' c' d' : ByteArray}
theorem PW.start : PW W (W.alloc (wo a b c d)) a b c d := ⟨(Below.refl _ _).alloc (Nat.le_refl _) _, by show (W.heap.push _)[W.heap.size]? = _; simp⟩
theorem PW.below (h : PW W w a b c d) (hb : Below w.heap.size w w') : PW W w' a b c d := ⟨below_tr h.1 hb, by rw [hb.block _ (lt_of_block h.2)]; exact h.2⟩
theorem PW.alloc (h : PW W w a b c d) (o : Obj) : PW W (w.alloc o) a b c d := h.below ((Below.refl _ _).alloc (Nat.le_refl _) _)
theorem PW.cells (h : PW W w a b c d) : (w.cell? ⟨W.heap.size, 0, none⟩ = some (.string a) ∧ w.cell? ⟨W.heap.size, 1, none⟩ = some (.string b) ∧ w.cell? ⟨W.heap.size, 2, none⟩ = some (.string c) ∧ w.cell? ⟨W.heap.size, 3, none⟩ = some (.string d)) ∧
    w.frozen? ⟨W.heap.size, 0, none⟩ = false ∧ w.frozen? ⟨W.heap.size, 1, none⟩ = false ∧ w.frozen? ⟨W.heap.size, 2, none⟩ = false ∧ w.frozen? ⟨W.heap.size, 3, none⟩ = false := by
  obtain ⟨_, h⟩ := h
  simp [World.cell?, World.frozen?, h]
theorem PW.set0 (h : PW W w a b c d) : PW W (w.setCell ⟨W.heap.size, 0, none⟩ (.string a')) a' b c d := by
  refine ⟨h.1.setCell (Nat.le_refl _) _, ?_⟩
  rw [heap_setCell_same w W.heap.size 0 _ _ (.string a') h.2]; rfl
theorem PW.set1 (h : PW W w a b c d) : PW W (w.setCell ⟨W.heap.size, 1, none⟩ (.string b')) a b' c d := by
  refine ⟨h.1.setCell (Nat.le_refl _) _, ?_⟩
  rw [heap_setCell_same w W.heap.size 1 _ _ (.string b') h.2]; rfl
theorem PW.set2 (h : PW W w a b c d) : PW W (w.setCell ⟨W.heap.size, 2, none⟩ (.string c')) a b c' d := by
  refine ⟨h.1.setCell (Nat.le_refl _) _, ?_⟩
  rw [heap_setCell_same w W.heap.size 2 _ _ (.string c') h.2]; rfl
theorem PW.set3 (h : PW W w a b c d) : PW W (w.setCell ⟨W.heap.size, 3, none⟩ (.string d')) a b c d' := by
  refine ⟨h.1.setCell (Nat.le_refl _) _, ?_⟩
  rw [heap_setCell_same w W.heap.size 3 _ _ (.string d') h.2]; rfl
theorem PW.set (h : PW W w a b c d) : PW W ((((w.setCell ⟨W.heap.size, 0, none⟩ (.string a')).setCell ⟨W.heap.size, 1, none⟩ (.string b')).setCell ⟨W.heap.size, 2, none⟩ (.string c')).setCell ⟨W.heap.size, 3, none⟩ (.string d')) a' b' c' d' := h.set0.set1.set2.set3
end
theorem cut1_at {l f : List UInt8} {s X Y F : ByteArray} {g : Nat} (w : World) (hs : s = txt l) (hl : l.length ≤ 1000000) (hf : f.length ≤ 100 ∧ fb f) (hF : F = txt f) (hX : X = txt (cutL [f] l).1) (hY : Y = txt (cutL [f] l).2) (hg : g < w.heap.size) (hc : w.cell? ⟨g, 0, none⟩ = some (.string F)) :
    Calls Tryz.prog 149 #[.string s, .slice (some ⟨g, 0, none⟩) 1 1] w fun e w' => e = .returned (.tuple #[.string X, .string Y]) ∧ Below w.heap.size w w' :=
  cut_is (fs := [f]) (n := 1) _ hs hl (fun g hg => by obtain rfl : g = f := by simpa using hg
                                                      exact hf) (by simp) hg (fun i g' h => by
    match i, h with
    | 0, h => obtain rfl : f = g' := by simpa using h
              rw [hc, hF]
    | n + 1, h => simp at h) rfl hX hY
/-- What a text's parts are told as. -/
def spv (l : List UInt8) : Value := .tuple #[wv (txt (pD l)) (txt (pT l)) (txt (pF l)) (txt (pZ l)), .string (txt (l.drop (en l)))]
/-- The cases of it. -/
theorem sp_none {l : List UInt8} (hd : dte l = false) : pD l = [] ∧ pT l = cT l ∧ pF l = cF l ∧ pZ l = [] ∧ l.drop (en l) = cR l := by
  have ht : tp l = 0 := by rw [tp, hd]; rfl
  have hh : hT l = clk l 0 := by rw [hT, hd]; rfl
  have hz : nZ l = 0 := by rw [nZ, hd]; simp
  refine ⟨by rw [pD, hd]; rfl, ?_, ?_, by rw [pZ, hz]; rfl, ?_⟩
  · rw [pT, hh, ht, cT, List.drop_zero]
  · rw [pF, nF, hh, ht, cF]
    cases clk l 0 <;> rfl
  · rw [en, nF, hh, ht, hz, hd, cR]
    cases clk l 0 <;> simp
theorem sp_date {l : List UInt8} (hd : dte l = true) (hn : (sp (bt l 10) && clk l 11) = false) : pD l = l.take 10 ∧ pT l = [] ∧ pF l = [] ∧ pZ l = [] ∧ l.drop (en l) = l.drop 10 := by
  have hh : hT l = false := by rw [hT, hd, if_pos rfl]; exact hn
  have hf : nF l = 0 := by rw [nF, hh]; rfl
  have hz : nZ l = 0 := by rw [nZ, hh]; simp
  refine ⟨by rw [pD, hd]; rfl, by rw [pT, hh]; rfl, by rw [pF, hf]; rfl, by rw [pZ, hz]; rfl, by rw [en, hh, hd]; rfl⟩
theorem sp_both {l : List UInt8} (hd : dte l = true) (hs : sp (bt l 10) = true) (hk : clk l 11 = true) :
    pD l = l.take 10 ∧ pT l = cT (l.drop 11) ∧ pF l = cF (l.drop 11) ∧ pZ l = (cR (l.drop 11)).take (zn (cR (l.drop 11)) 0) ∧ l.drop (en l) = (cR (l.drop 11)).drop (zn (cR (l.drop 11)) 0) := by
  have hh : hT l = true := by rw [hT, hd, if_pos rfl, hs, hk]; rfl
  have ht : tp l = 11 := by rw [tp, hd]; rfl
  have hf : nF l = frc l 19 := by rw [nF, hh, ht]; rfl
  have hk' : clk (l.drop 11) 0 = true := by rw [clk_dr]; exact hk
  have hf' : frc (l.drop 11) 8 = frc l 19 := by rw [frc_dr]
  have hR : cR (l.drop 11) = l.drop (19 + frc l 19) := by
    rw [cR, if_pos hk', hf', List.drop_drop]; congr 1; omega
  have hz : nZ l = zn (l.drop (19 + frc l 19)) 0 := by rw [nZ, if_pos ⟨hd, hh⟩, ht, hf, zn_dr]; rfl
  refine ⟨by rw [pD, hd]; rfl, by rw [pT, hh, ht, cT, if_pos hk', if_pos rfl], ?_, ?_, ?_⟩
  · rw [pF, ht, hf, cF, if_pos hk', hf', List.drop_drop]
  · rw [hR, pZ, ht, hf, hz]
  · rw [hR, en, hh, if_pos rfl, ht, hf, hz, List.drop_drop]
theorem cT_nil {l : List UInt8} : cT l = [] ↔ clk l 0 = false := by
  unfold cT
  cases h : clk l 0
  · simp
  · have := clk_in h
    simp only [if_true]
    constructor
    · intro e; have := congrArg List.length e; rw [List.length_take, List.length_nil] at this; omega
    · intro e; cases e
theorem cR_len (l : List UInt8) : (cR l).length ≤ l.length := by
  unfold cR; split <;> simp
end Da
end Go.Proofs.YtbeefjhcbphiaaaGreatDoor
/- What landed: a text split, walked. -/
namespace Go.Proofs.YtbeefjhcbphiaaaGreatDoor
open Go.RowKit
namespace Da

set_option maxHeartbeats 4000000 in
set_option maxRecDepth 100000 in
theorem split_is {l : List UInt8} {s : ByteArray} (w : World) (hs : s = txt l) (hl : l.length ≤ 1000000) :
    Calls Tryz.prog 140 #[.string s] w fun e w' => e = .returned (spv l) ∧ Below w.heap.size w w' := by
  obtain ⟨A, hA⟩ : ∃ A, A = txt (cutL [DF] l).1 := ⟨_, rfl⟩
  obtain ⟨R, hR⟩ : ∃ R, R = txt (cutL [DF] l).2 := ⟨_, rfl⟩
  have C1 := Lib.hid (fun (F : ByteArray) (hF : F = txt DF) (g : Nat) (w : World) (hg : g < w.heap.size) (hc : w.cell? ⟨g, 0, none⟩ = some (.string F)) => cut1_at w hs hl ⟨by decide, fbD⟩ hF hA hR hg hc)
  have P0 := Lib.hid ((PW.start (W := w) (a := ⟨#[]⟩) (b := ⟨#[]⟩) (c := ⟨#[]⟩) (d := ⟨#[]⟩)).alloc (sl1 ⟨#[89, 89, 89, 89, 45, 77, 77, 45, 68, 68]⟩))
  rw [cutL_D] at hA hR
  cases hd : dte l
  · rw [hd, if_neg (by simp)] at hA hR
    obtain ⟨e1, e2, e3, e4, e5⟩ := sp_none hd
    obtain ⟨X, hX⟩ : ∃ X, X = txt (cT l) := ⟨_, rfl⟩
    obtain ⟨Y, hY⟩ : ∃ X, X = txt (cF l) := ⟨_, rfl⟩
    obtain ⟨Z, hZ⟩ : ∃ X, X = txt (cR l) := ⟨_, rfl⟩
    have C2 := Lib.hid (fun w => cutTime_is w hs hl hX hY hZ)
    have hae : A = ⟨#[]⟩ := hA
    have E := Lib.hid (show spv l = .tuple #[wv ⟨#[]⟩ X Y ⟨#[]⟩, .string Z] by rw [spv, e1, e2, e3, e4, e5, hX, hY, hZ]; rfl)
    clear hs hl hA hR hX hY hZ e1 e2 e3 e4 e5 hd
    subst hae
    go_enter Tryz.func140, Tryz.ntmps140
    go_wp2_with fail
    refine (C1.out _ rfl _ _ (by simp) (by simp [go_sem]; rfl)).mono ?_
    rintro e w1 ⟨rfl, hb⟩
    have P1 := Lib.hid (P0.out.below hb)
    obtain ⟨⟨c0, c1, c2, c3⟩, f0, f1, f2, f3⟩ := P1.out.cells
    clear hb
    go_wp2_with fail
    refine (C2.out _).mono ?_
    rintro e w2 ⟨rfl, hb⟩
    have P2 := Lib.hid (P1.out.set0.below hb)
    clear hb c0 c1 c2 c3 f0 f1 f2 f3
    obtain ⟨⟨c0, c1, c2, c3⟩, f0, f1, f2, f3⟩ := P2.out.cells
    have P3 := Lib.hid ((P2.out.set1 (b' := X)).set2 (c' := Y))
    obtain ⟨⟨d0, d1, d2, d3⟩, g0, g1, g2, g3⟩ := P3.out.cells
    go_wp2_with fail
    refine bodyPost_ret (v := .tuple #[wv ⟨#[]⟩ X Y ⟨#[]⟩, .string Z]) (by simp [results, Tryz.results140, go_sem, *]) rfl ?_
    exact ⟨by rw [E.out], P3.out.set.1⟩
  · rw [hd, if_pos rfl] at hA hR
    have hin := dte_in hd
    have hae : A.toList.isEmpty = false := by
      rw [txt_empty hA, decide_eq_false]
      intro e; have := congrArg List.length e; rw [List.length_take, List.length_nil] at this; omega
    have hre := txt_empty hR
    have HAA := Lib.hid (show A = txt (l.take 10) from hA)
    have HRR := Lib.hid (show R = txt (l.drop 10) from hR)
    have hrz : R.size ≤ 1000000 := by rw [HRR.out, txt_size, List.length_drop]; omega
    have NO := Lib.hid (fun (hn : (sp (bt l 10) && clk l 11) = false) => show spv l = .tuple #[wv A ⟨#[]⟩ ⟨#[]⟩ ⟨#[]⟩, .string R] by
      obtain ⟨e1, e2, e3, e4, e5⟩ := sp_date hd hn
      rw [spv, e1, e2, e3, e4, e5, HAA.out, HRR.out]; rfl)
    by_cases hlen : l.length = 10
    · have E := Lib.hid (NO.out (by rw [bt_far (by omega)]; rfl))
      rw [decide_eq_true (show l.drop 10 = [] from List.drop_eq_nil_of_le (by omega))] at hre
      clear hs hl hA hR hd hin HAA HRR NO hlen
      go_enter Tryz.func140, Tryz.ntmps140
      go_wp2_with fail
      refine (C1.out _ rfl _ _ (by simp) (by simp [go_sem]; rfl)).mono ?_
      rintro e w1 ⟨rfl, hb⟩
      have P1 := Lib.hid (P0.out.below hb)
      obtain ⟨⟨c0, c1, c2, c3⟩, f0, f1, f2, f3⟩ := P1.out.cells
      have P3 := Lib.hid (P1.out.set0 (a' := A))
      obtain ⟨⟨d0, d1, d2, d3⟩, g0, g1, g2, g3⟩ := P3.out.cells
      clear hb
      go_wp2_with fail
      refine bodyPost_ret (v := .tuple #[wv A ⟨#[]⟩ ⟨#[]⟩ ⟨#[]⟩, .string R]) (by simp [results, Tryz.results140, go_sem, *]) rfl ?_
      exact ⟨by rw [E.out], P3.out.set.1⟩
    · have hne : ¬ l.drop 10 = [] := fun e => by have := congrArg List.length e; rw [List.length_drop, List.length_nil] at this; omega
      rw [decide_eq_false hne] at hre
      have hr0 : 0 < R.size := by rw [HRR.out, txt_size]; exact List.length_pos_iff.2 hne
      have hx := txt_at HRR.out (k := 0)
      rw [bt_drop] at hx
      obtain ⟨x, hxx⟩ : ∃ x, x = bt l (10 + 0) := ⟨_, rfl⟩
      rw [← hxx] at hx
      obtain ⟨y, ey, y1, y2, hy⟩ := tsp_is (c := x) (by rw [hxx]; exact bt_lo _ _) (by rw [hxx]; exact bt_hi _ _)
      have CI := Lib.hid hy
      have hxb : bt l 10 = x := hxx.symm
      rw [hxb] at NO
      clear hy hne hlen
      cases hsp : sp x
      · have hy0 : y < 0 := by rw [hsp] at ey; have := of_decide_eq_false ey; omega
        have E := Lib.hid (NO.out (by rw [hsp]; rfl))
        clear hs hl hA hR hd hin HAA HRR NO hxx hxb ey hsp
        go_enter Tryz.func140, Tryz.ntmps140
        go_wp2_with fail
        refine (C1.out _ rfl _ _ (by simp) (by simp [go_sem]; rfl)).mono ?_
        rintro e w1 ⟨rfl, hb⟩
        have P1 := Lib.hid (P0.out.below hb)
        obtain ⟨⟨c0, c1, c2, c3⟩, f0, f1, f2, f3⟩ := P1.out.cells
        have P3 := Lib.hid (P1.out.set0 (a' := A))
        obtain ⟨⟨d0, d1, d2, d3⟩, g0, g1, g2, g3⟩ := P3.out.cells
        clear hb
        go_wp2_with (go_at_call 143; refine (CI.out _).mono ?_; rintro e w' ⟨rfl, rfl⟩)
        refine bodyPost_ret (v := .tuple #[wv A ⟨#[]⟩ ⟨#[]⟩ ⟨#[]⟩, .string R]) (by simp [results, Tryz.results140, go_sem, *]) rfl ?_
        exact ⟨by rw [E.out], P3.out.set.1⟩
      · have hy0 : ¬ y < 0 := by rw [hsp] at ey; have := of_decide_eq_true ey; omega
        obtain ⟨Q, hQ⟩ : ∃ Q, Q = txt (l.drop 11) := ⟨_, rfl⟩
        have EQ := Lib.hid (show R.extract 1 R.size = Q by rw [HRR.out, txt_drop, List.drop_drop, hQ])
        obtain ⟨X, hX⟩ : ∃ X, X = txt (cT (l.drop 11)) := ⟨_, rfl⟩
        obtain ⟨Y, hY⟩ : ∃ X, X = txt (cF (l.drop 11)) := ⟨_, rfl⟩
        obtain ⟨Z, hZ⟩ : ∃ X, X = txt (cR (l.drop 11)) := ⟨_, rfl⟩
        have ql : (l.drop 11).length ≤ 1000000 := by rw [List.length_drop]; omega
        have C2 := Lib.hid (fun w => cutTime_is w hQ ql hX hY hZ)
        have hxe := txt_empty hX
        have hr1 : 1 ≤ R.size := hr0
        cases hk : clk l 11
        · have E := Lib.hid (NO.out (by rw [hk, hsp]; rfl))
          rw [decide_eq_true (cT_nil.2 (by rw [clk_dr]; exact hk))] at hxe
          clear hs hl hA hR hd hin HAA HRR NO hxx hxb ey hsp hk hX hY hZ hQ ql
          go_enter Tryz.func140, Tryz.ntmps140
          go_wp2_with fail
          refine (C1.out _ rfl _ _ (by simp) (by simp [go_sem]; rfl)).mono ?_
          rintro e w1 ⟨rfl, hb⟩
          have P1 := Lib.hid (P0.out.below hb)
          obtain ⟨⟨c0, c1, c2, c3⟩, f0, f1, f2, f3⟩ := P1.out.cells
          have P3 := Lib.hid (P1.out.set0 (a' := A))
          obtain ⟨⟨d0, d1, d2, d3⟩, g0, g1, g2, g3⟩ := P3.out.cells
          clear hb
          go_wp2_with (go_at_call 143; refine (CI.out _).mono ?_; rintro e w' ⟨rfl, rfl⟩)
          rw [EQ.out]
          refine (C2.out _).mono ?_
          rintro e w2 ⟨rfl, hb⟩
          have P4 := Lib.hid (P3.out.below hb)
          clear hb c0 c1 c2 c3 f0 f1 f2 f3 d0 d1 d2 d3 g0 g1 g2 g3
          obtain ⟨⟨c0, c1, c2, c3⟩, f0, f1, f2, f3⟩ := P4.out.cells
          go_wp2_with fail
          refine bodyPost_ret (v := .tuple #[wv A ⟨#[]⟩ ⟨#[]⟩ ⟨#[]⟩, .string R]) (by simp [results, Tryz.results140, go_sem, *]) rfl ?_
          exact ⟨by rw [E.out], P4.out.set.1⟩
        · obtain ⟨e1, e2, e3, e4, e5⟩ := sp_both hd (by rw [hxb]; exact hsp) hk
          obtain ⟨V, hV⟩ : ∃ X, X = txt ((cR (l.drop 11)).take (zn (cR (l.drop 11)) 0)) := ⟨_, rfl⟩
          obtain ⟨U, hU⟩ : ∃ X, X = txt ((cR (l.drop 11)).drop (zn (cR (l.drop 11)) 0)) := ⟨_, rfl⟩
          have C3 := Lib.hid (fun w => cutZone_is w hZ (by have := cR_len (l.drop 11); omega) hV hU)
          have E := Lib.hid (show spv l = .tuple #[wv A X Y V, .string U] by rw [spv, e1, e2, e3, e4, e5, HAA.out, hX, hY, hV, hU])
          rw [decide_eq_false (fun h => by have := cT_nil.1 h; rw [clk_dr] at this; rw [hk] at this; cases this)] at hxe
          clear hs hl hA hR hd hin HAA HRR NO hxx hxb ey hsp hk hX hY hZ hQ ql e1 e2 e3 e4 e5 hV hU
          go_enter Tryz.func140, Tryz.ntmps140
          go_wp2_with fail
          refine (C1.out _ rfl _ _ (by simp) (by simp [go_sem]; rfl)).mono ?_
          rintro e w1 ⟨rfl, hb⟩
          have P1 := Lib.hid (P0.out.below hb)
          obtain ⟨⟨c0, c1, c2, c3⟩, f0, f1, f2, f3⟩ := P1.out.cells
          have P3 := Lib.hid (P1.out.set0 (a' := A))
          obtain ⟨⟨d0, d1, d2, d3⟩, g0, g1, g2, g3⟩ := P3.out.cells
          clear hb
          go_wp2_with (go_at_call 143; refine (CI.out _).mono ?_; rintro e w' ⟨rfl, rfl⟩)
          rw [EQ.out]
          refine (C2.out _).mono ?_
          rintro e w2 ⟨rfl, hb⟩
          have P4 := Lib.hid (P3.out.below hb)
          clear hb c0 c1 c2 c3 f0 f1 f2 f3 d0 d1 d2 d3 g0 g1 g2 g3
          obtain ⟨⟨c0, c1, c2, c3⟩, f0, f1, f2, f3⟩ := P4.out.cells
          have P5 := Lib.hid ((P4.out.set1 (b' := X)).set2 (c' := Y))
          obtain ⟨⟨d0, d1, d2, d3⟩, g0, g1, g2, g3⟩ := P5.out.cells
          go_wp2_with fail
          refine (C3.out _).mono ?_
          rintro e w3 ⟨rfl, hb⟩
          have P6 := Lib.hid (P5.out.below hb)
          clear hb c0 c1 c2 c3 f0 f1 f2 f3 d0 d1 d2 d3 g0 g1 g2 g3
          obtain ⟨⟨c0, c1, c2, c3⟩, f0, f1, f2, f3⟩ := P6.out.cells
          have P7 := Lib.hid (P6.out.set3 (d' := V))
          obtain ⟨⟨d0, d1, d2, d3⟩, g0, g1, g2, g3⟩ := P7.out.cells
          go_wp2_with fail
          refine bodyPost_ret (v := .tuple #[wv A X Y V, .string U]) (by simp [results, Tryz.results140, go_sem, *]) rfl ?_
          exact ⟨by rw [E.out], P7.out.set.1⟩
end Da
end Go.Proofs.YtbeefjhcbphiaaaGreatDoor
