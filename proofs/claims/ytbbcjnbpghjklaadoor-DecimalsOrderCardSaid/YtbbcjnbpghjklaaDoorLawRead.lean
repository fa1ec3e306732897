/- The law DecimalsRead, walked. -/
import Derived.Test.YtbbcjnbpghjklaaDoorLawLess
namespace Go.Proofs.YtbbcjnbpghjklaaDoor
open Go.RowKit

theorem belowOn {B : Nat} {a b c : World} (h : Below B a b) (hB : B ≤ a.heap.size) (k : Below b.heap.size b c) : Below B a c := h.trans (k.mono (Nat.le_trans hB h.size))
set_option maxHeartbeats 2000000 in
set_option maxRecDepth 100000 in
theorem lawread_any (s : ByteArray) (w : World) (htab : Tab w) : Calls Tryd.prog 3 #[.string s] w fun e w' => e = .returned (.bool true) ∧ Below w.heap.size w w' := by
  have HL := Lib.hid lives_any
  have HB0 := Lib.hid (Below.refl w.heap.size w)
  have HT := Lib.hid htab
  clear htab
  by_cases h1 : s.size ≤ 3000
  · obtain ⟨a, ha⟩ : ∃ a, a = s.data.toList := ⟨_, rfl⟩
    have hs : s = txt a := by rw [ha]; exact as_txt s
    have la : a.length ≤ 3000 := by rw [ha, as_len]; exact h1
    clear ha
    have ra := rd_len a
    have RA := Lib.hid (fun w h => dread_any (l := a) w h hs (by omega))
    have RB := Lib.hid (fun w => read_any (l := a) w hs (by omega))
    have D1 := Lib.hid (fun w h => dparts_any (l := a) w h hs (by omega))
    have E1 := Lib.hid (fun w => parts_any (l := a) w hs (by omega))
    have D2 := Lib.hid (fun w h => dparts_any (l := (rd a).1) w h rfl (by omega))
    have E2 := Lib.hid (fun w => parts_any (l := (rd a).1) w rfl (by omega))
    clear hs la ra
    generalize (rd a).2 = ca at *
    generalize ptM a = m1 at *
    generalize ptD a = d1 at *
    generalize ptX a = x1 at *
    generalize norm a = k1 at *
    generalize ptM (rd a).1 = m2 at *
    generalize ptD (rd a).1 = d2 at *
    generalize ptX (rd a).1 = x2 at *
    generalize norm (rd a).1 = k2 at *
    generalize (rd a).1 = x at *
    generalize txt x = u at *
    generalize txt d1 = d1 at *
    generalize txt d2 = d2 at *
    go_enter Tryd.func3, Tryd.ntmps3
    go_wp2_with fail
    refine (RA.out _ (HT.out.on HB0.out)).mono ?_
    rintro e w1 ⟨rfl, hb⟩
    have HB1 := Lib.hid (HB0.out.trans (hb.mono HB0.out.size))
    clear hb
    go_wp2_with fail
    refine (RB.out _).mono ?_
    rintro e w2 ⟨rfl, hb⟩
    have HB2 := Lib.hid (HB1.out.trans (hb.mono HB1.out.size))
    clear hb
    go_wp2_with fail
    have HT2 := Lib.hid (show Tab (w2.alloc (.cells #[.string s, .string u] 9)) from HT.out.on (HB2.out.alloc HB2.out.size _))
    go_loopw [8] (fun v wr => ∃ k : Nat, k ≤ 2 ∧ v = .int .i64 k ∧ Below (w2.heap.size + 1) (w2.alloc (.cells #[.string s, .string u] 9)) wr) (fun v _ => 2 - (intOf v).toNat)
    case atStart => exact ⟨0, by omega, rfl, Below.refl _ _⟩
    case round =>
      obtain ⟨k, hk, rfl, hbr⟩ := hrel
      have HBR := Lib.hid hbr
      clear hbr
      have hk' : k = 0 ∨ k = 1 ∨ k = 2 := by omega
      clear hk
      rcases hk' with rfl | rfl | rfl
      · have hc := HBR.out.cell (p := ⟨w2.heap.size, 0, none⟩) (by simp)
        rw [World.cell?_alloc_at _ _ _ _ rfl] at hc
        replace hc : wr.cell? ⟨w2.heap.size, 0, none⟩ = some (.string s) := hc
        go_wp2_with fail
        clear hc
        refine (D1.out _ (HT2.out.on (HBR.out.mono (by simp)))).mono ?_
        rintro e w3 ⟨rfl, hb⟩
        have HBR3 := Lib.hid (belowOn HBR.out (by simp) hb)
        clear hb
        have hc := HBR3.out.cell (p := ⟨w2.heap.size, 0, none⟩) (by simp)
        rw [World.cell?_alloc_at _ _ _ _ rfl] at hc
        replace hc : w3.cell? ⟨w2.heap.size, 0, none⟩ = some (.string s) := hc
        go_wp2_with fail
        clear hc
        refine (E1.out _).mono ?_
        rintro e w4 ⟨rfl, hb⟩
        have HBR4 := Lib.hid (belowOn HBR3.out (by simp) hb)
        clear hb
        go_wp2_with fail
        go_roundw
        case rel => exact ⟨1, by omega, rfl, HBR4.out⟩
        case measure => simp [intOf]
      · have hc := HBR.out.cell (p := ⟨w2.heap.size, 1, none⟩) (by simp)
        rw [World.cell?_alloc_at _ _ _ _ rfl] at hc
        replace hc : wr.cell? ⟨w2.heap.size, 1, none⟩ = some (.string u) := hc
        go_wp2_with fail
        clear hc
        refine (D2.out _ (HT2.out.on (HBR.out.mono (by simp)))).mono ?_
        rintro e w3 ⟨rfl, hb⟩
        have HBR3 := Lib.hid (belowOn HBR.out (by simp) hb)
        clear hb
        have hc := HBR3.out.cell (p := ⟨w2.heap.size, 1, none⟩) (by simp)
        rw [World.cell?_alloc_at _ _ _ _ rfl] at hc
        replace hc : w3.cell? ⟨w2.heap.size, 1, none⟩ = some (.string u) := hc
        go_wp2_with fail
        clear hc
        refine (E2.out _).mono ?_
        rintro e w4 ⟨rfl, hb⟩
        have HBR4 := Lib.hid (belowOn HBR3.out (by simp) hb)
        clear hb
        go_wp2_with fail
        go_roundw
        case rel => exact ⟨2, by omega, rfl, HBR4.out⟩
        case measure => simp [intOf]
      · go_wp2_with fail
        refine (HL.out _ (HT2.out.on (HBR.out.mono (by simp)))).mono ?_
        rintro e w3 ⟨rfl, hb⟩
        have HBR3 := Lib.hid (belowOn HBR.out (by simp) hb)
        clear hb
        go_wp2_with fail
        go_ret
        exact ⟨rfl, belowOn (HB2.out.alloc HB2.out.size _) (Nat.le_refl _) (HBR3.out.mono (by simp)) ⟩
  · go_enter Tryd.func3, Tryd.ntmps3
    go_wp2_with fail
    refine (HL.out _ (HT.out.on HB0.out)).mono ?_
    rintro e w1 ⟨rfl, hb⟩
    have HB1 := Lib.hid (HB0.out.trans (hb.mono HB0.out.size))
    clear hb
    go_wp2_with fail
    go_ret
    exact ⟨rfl, HB1.out⟩
end Go.Proofs.YtbbcjnbpghjklaaDoor
