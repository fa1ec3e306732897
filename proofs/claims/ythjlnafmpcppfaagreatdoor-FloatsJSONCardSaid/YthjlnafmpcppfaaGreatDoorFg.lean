/- The document's run of digits with marks, walked. -/
import Derived.Test.YthjlnafmpcppfaaGreatDoorFL
import Derived.Test.YthjlnafmpcppfaaGreatDoorJJ
namespace Go.Proofs.YthjlnafmpcppfaaGreatDoor
open Go.RowKit
namespace Fl

/-- A round of the document's run. -/
structure RnR (l : List UInt8) (i k : Nat) (O : List UInt8) : Prop where
  ge : i ≤ k
  le : k ≤ l.length
  one : O ≠ [] → 1 ≤ k
  len : O.length ≤ k
  eq : rn false (l.drop i) = ((k - i) + (rn (decide (O ≠ [] ∧ bt l (k - 1) ≠ 95)) (l.drop k)).1, O ++ (rn (decide (O ≠ [] ∧ bt l (k - 1) ≠ 95)) (l.drop k)).2)
theorem RnR.start {l : List UInt8} {i : Nat} (h : i ≤ l.length) : RnR l i i [] := ⟨Nat.le_refl _, h, fun h => absurd rfl h, by simp, by simp⟩
section
variable {l : List UInt8} {i k : Nat} {O : List UInt8} (h : RnR l i k O)
include h
theorem RnR.dig (hk : k < l.length) (hn : nmr (bt l k) = true) : RnR l i (k + 1) (O ++ [l[k]]) := by
  obtain ⟨h1, h2, h3, hlen, h4⟩ := h
  have hb : bt l k = ((l[k]).toNat : Int) := by simp [bt, hk]
  have hnb : nb l[k] = true := by unfold nb; rw [← hb]; exact hn
  have h95 : bt l k ≠ 95 := fun e => by rw [e] at hn; revert hn; decide
  refine ⟨by omega, hk, fun _ => by omega, by simp; omega, ?_⟩
  rw [h4, List.drop_eq_getElem_cons hk, rn, if_pos hnb, Nat.add_sub_cancel, decide_eq_true (show O ++ [l[k]] ≠ [] ∧ bt l k ≠ 95 from ⟨by simp, h95⟩)]
  simp; omega
theorem RnR.mark (hk : k + 1 < l.length) (h95 : bt l k = 95) (hO : O ≠ []) (hp : bt l (k - 1) ≠ 95) (hn : nmr (bt l (k + 1)) = true) : RnR l i (k + 1) O := by
  obtain ⟨h1, h2, h3, hlen, h4⟩ := h
  have hk' : k < l.length := by omega
  have hc : l[k] = 95 := UInt8.toNat_inj.1 (by have : bt l k = ((l[k]).toNat : Int) := by simp [bt, hk']
                                               show (l[k]).toNat = 95; omega)
  have hh : hdd (l.drop (k + 1)) = true := by
    rw [List.drop_eq_getElem_cons hk]
    show nb l[k + 1] = true
    unfold nb
    have : bt l (k + 1) = ((l[k + 1]).toNat : Int) := by simp [bt, hk]
    rw [← this]; exact hn
  refine ⟨by omega, hk', fun _ => by omega, by omega, ?_⟩
  rw [h4, List.drop_eq_getElem_cons hk', hc, rn, if_neg (by rw [nb95]; simp), decide_eq_true (show O ≠ [] ∧ bt l (k - 1) ≠ 95 from ⟨hO, hp⟩), if_pos ⟨rfl, rfl, hh⟩, Nat.add_sub_cancel, h95, decide_eq_false (show ¬ (O ≠ [] ∧ (95 : Int) ≠ 95) from fun e => e.2 rfl)]
  simp; omega
theorem RnR.out_ (hend : k < l.length → nmr (bt l k) = false ∧ ¬ (bt l k = 95 ∧ O ≠ [] ∧ bt l (k - 1) ≠ 95 ∧ k + 1 < l.length ∧ nmr (bt l (k + 1)) = true)) : ((k : Int) = i + ((rn false (l.drop i)).1 : Nat)) ∧ O = (rn false (l.drop i)).2 := by
  obtain ⟨h1, h2, h3, hlen, h4⟩ := h
  have e : rn (decide (O ≠ [] ∧ bt l (k - 1) ≠ 95)) (l.drop k) = (0, []) := by
    by_cases hk : k < l.length
    · obtain ⟨e1, e2⟩ := hend hk
      have hb : bt l k = ((l[k]).toNat : Int) := by simp [bt, hk]
      have hnb : nb l[k] = false := by unfold nb; rw [← hb]; exact e1
      rw [List.drop_eq_getElem_cons hk, rn, if_neg (by rw [hnb]; simp), if_neg]
      rintro ⟨g1, g2, g3⟩
      have g2 := of_decide_eq_true g2
      apply e2
      refine ⟨by rw [hb, g1]; rfl, g2.1, g2.2, ?_⟩
      by_cases hk2 : k + 1 < l.length
      · refine ⟨hk2, ?_⟩
        rw [List.drop_eq_getElem_cons hk2] at g3
        have : bt l (k + 1) = ((l[k + 1]).toNat : Int) := by simp [bt, hk2]
        rw [this]; exact g3
      · rw [List.drop_eq_nil_of_le (by omega)] at g3; cases g3
    · rw [List.drop_eq_nil_of_le (by omega)]; rfl
  rw [h4, e]
  refine ⟨?_, by simp⟩
  simp only; omega
end
theorem ext_one {l : List UInt8} {k : Nat} (h : k < l.length) : (txt l).extract k (k + 1) = txt [l[k]] := by
  rw [txt_cut]
  rw [List.drop_take, Nat.add_sub_cancel_left, List.drop_eq_getElem_cons h]; rfl
theorem txt_empty {s : ByteArray} {O : List UInt8} (h : s = txt O) : s.toList.isEmpty = decide (O = []) := by
  rw [h, II.toList_txt]
  cases O <;> simp
set_option maxHeartbeats 4000000 in
set_option maxRecDepth 100000 in
theorem frun_any {l : List UInt8} {s : ByteArray} (i : Nat) {x y : Int} {T : ByteArray} (w : World) (hs : s = txt l) (hi : i ≤ l.length) (hm : l.length ≤ 1000000) (hx : x = i) (hy : y = i + ((rn false (l.drop i)).1 : Nat)) (hT : T = txt (rn false (l.drop i)).2) :
    Calls Tryz.prog 24 #[.string s, .int .i64 x] w fun e w' => e = .returned (.tuple #[.int .i64 y, .string T]) ∧ w = w' := by
  subst hx
  have HZ := Lib.hid (show s.size = l.length by rw [hs, txt_size])
  have HS := Lib.hid hs
  have hsz : s.size ≤ 1000000 := by have := HZ.out; omega
  have R0 := Lib.hid (RnR.start hi)
  have HY := Lib.hid (show ∀ (k : Nat) (O : List UInt8), (k : Int) = i + ((rn false (l.drop i)).1 : Nat) ∧ O = (rn false (l.drop i)).2 → (k : Int) = y ∧ txt O = T from fun k O h => ⟨by rw [hy, h.1], by rw [hT, h.2]⟩)
  clear hs hi hm hy hT
  go_enter Tryz.func24, Tryz.ntmps24
  go_wp2_with fail
  go_loop [1, 6] (fun j o => ∃ (k : Nat) (O : List UInt8) (S : ByteArray), j = .int .i64 k ∧ o = .string S ∧ Hid (S = txt O) ∧ Hid (RnR l i k O)) (fun j _ => s.size - (intOf j).toNat)
  case atStart => exact ⟨i, [], _, rfl, rfl, Lib.hid rfl, R0⟩
  case round =>
    obtain ⟨k, O, S, rfl, rfl, HO, HR⟩ := hrel
    clear R0
    have hSz : S.size ≤ 1000000 := by have h1 := HR.out.len; have h2 := HR.out.le; have h3 : S.size = O.length := by rw [HO.out, txt_size]
                                      have := HZ.out; omega
    by_cases hlt : k < s.size
    · have hkl : k < l.length := by rw [← HZ.out]; exact hlt
      have hx := txt_at HS.out (k := k)
      have bl := bt_lo l k
      have bh := bt_hi l k
      by_cases hd : nmr (bt l k) = true
      · have R1 := Lib.hid (HR.out.dig hkl hd)
        have HX := Lib.hid (show S ++ s.extract k (k + 1) = txt (O ++ [l[k]]) by rw [HO.out, HS.out, ext_one hkl, txt_app])
        have h48 : 48 ≤ bt l k ∧ bt l k ≤ 57 := by simpa [nmr] using hd
        obtain ⟨h48, h57⟩ := h48
        clear hd
        go_wp2_with fail
        go_round
        case rel => exact ⟨k + 1, _, _, by go_num, rfl, HX, R1⟩
        case measure => simp [intOf]; omega
      · replace hd : nmr (bt l k) = false := by simpa using hd
        have hout : ¬ (bt l k = 95 ∧ O ≠ [] ∧ bt l (k - 1) ≠ 95 ∧ k + 1 < l.length ∧ nmr (bt l (k + 1)) = true) → Hid ((k : Int) = y ∧ S = T) := fun h => by
          have := HY.out k O (HR.out.out_ (fun _ => ⟨hd, h⟩))
          exact Lib.hid ⟨this.1, by rw [HO.out, this.2]⟩
        have HOUT := Lib.hid hout
        have HN := Lib.hid hd
        have hno : ¬ (48 ≤ bt l k ∧ bt l k ≤ 57) := by intro h; rw [show nmr (bt l k) = true by simpa [nmr] using h] at hd; cases hd
        clear hout hd
        have he := txt_empty HO.out
        by_cases h95 : bt l k = 95
        · have H95 := Lib.hid h95
          rw [h95] at hx
          clear h95 hno bl bh
          by_cases hO : O = []
          · have E := HOUT.out (fun h => h.2.1 hO)
            rw [decide_eq_true hO] at he
            clear hO HOUT
            go_wp2_with fail
            go_ret2
            exact ⟨by rw [E.out.1, E.out.2]; rfl, rfl⟩
          · rw [decide_eq_false hO] at he
            have HOn := Lib.hid hO
            have hk1 := HR.out.one hO
            clear hO
            obtain ⟨k', rfl⟩ : ∃ k', k = k' + 1 := ⟨k - 1, by omega⟩
            clear hk1
            have hx' := txt_at HS.out (k := k')
            have hlt' : k' < s.size := by omega
            obtain ⟨z, hz⟩ : ∃ z, z = bt l k' := ⟨_, rfl⟩
            rw [← hz] at hx'
            have HZ' := Lib.hid hz
            clear hz
            by_cases hp : z = 95
            · have E := HOUT.out (fun h => h.2.2.1 (by rw [Nat.add_sub_cancel, ← HZ'.out, hp]))
              subst hp
              clear HOUT
              go_wp2_with fail
              go_ret2
              exact ⟨by rw [← E.out.1, E.out.2]; rfl, rfl⟩
            · have hp' : (z == 95) = false := by simp [hp]
              by_cases hl2 : k' + 1 + 1 < s.size
              · have hx2 := txt_at HS.out (k := k' + 1 + 1)
                obtain ⟨y2, hy2⟩ : ∃ y2, y2 = bt l (k' + 1 + 1) := ⟨_, rfl⟩
                rw [← hy2] at hx2
                have HY2 := Lib.hid hy2
                clear hy2
                by_cases g1 : 48 ≤ y2
                · by_cases g2 : y2 ≤ 57
                  · have R1 := Lib.hid (HR.out.mark (by rw [← HZ.out]; exact hl2) H95.out HOn.out (by rw [Nat.add_sub_cancel, ← HZ'.out]; exact hp) (by rw [← HY2.out]; simp [nmr, g1, g2]))
                    clear HOUT
                    go_wp2_with fail
                    go_round
                    case rel => exact ⟨k' + 1 + 1, _, _, by go_num, rfl, HO, R1⟩
                    case measure => simp [intOf]; omega
                  · have E := HOUT.out (fun h => by rw [← HY2.out] at h; simp [nmr, g2] at h)
                    clear HOUT
                    go_wp2_with fail
                    go_ret2
                    exact ⟨by rw [← E.out.1, E.out.2]; rfl, rfl⟩
                · have E := HOUT.out (fun h => by rw [← HY2.out] at h; simp [nmr, g1] at h)
                  clear HOUT
                  go_wp2_with fail
                  go_ret2
                  exact ⟨by rw [← E.out.1, E.out.2]; rfl, rfl⟩
              · have E := HOUT.out (fun h => hl2 (by rw [HZ.out]; exact h.2.2.2.1))
                clear HOUT
                go_wp2_with fail
                go_ret2
                exact ⟨by rw [← E.out.1, E.out.2]; rfl, rfl⟩
        · have E := HOUT.out (fun h => h95 h.1)
          obtain ⟨z, hz⟩ : ∃ z, z = bt l k := ⟨_, rfl⟩
          rw [← hz] at hx hno h95 bl bh
          clear hz HOUT
          by_cases g1 : 48 ≤ z
          · have g2 : ¬ z ≤ 57 := fun g => hno ⟨g1, g⟩
            clear hno
            go_wp2_with fail
            go_ret2
            exact ⟨by rw [E.out.1, E.out.2]; rfl, rfl⟩
          · clear hno
            go_wp2_with fail
            go_ret2
            exact ⟨by rw [E.out.1, E.out.2]; rfl, rfl⟩
    · have E := Lib.hid (HY.out k O (HR.out.out_ (fun h => absurd h (by rw [← HZ.out]; exact hlt))))
      go_wp2_with fail
      go_ret2
      exact ⟨by rw [E.out.1, HO.out, E.out.2]; rfl, rfl⟩
end Fl
end Go.Proofs.YthjlnafmpcppfaaGreatDoor
