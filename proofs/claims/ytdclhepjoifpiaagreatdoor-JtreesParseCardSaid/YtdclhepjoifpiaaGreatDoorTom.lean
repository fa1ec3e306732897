/- The document's next token: a string. -/
import Derived.Test.YtdclhepjoifpiaaGreatDoorAv
import Derived.Test.YtdclhepjoifpiaaGreatDoorAx
namespace Go.Proofs.YtdclhepjoifpiaaGreatDoor
open Go.RowKit
namespace Jk
theorem hxE_in {l : List UInt8} : ∀ m k a, hxE l (m + 1) k = .ok a → a ≤ l.length
  | 0, k, a, h => by
    rw [hxE] at h
    split at h
    · rename_i g; have := hx_in g; rw [hxE] at h; injection h with h; omega
    · cases h
  | m + 1, k, a, h => by
    rw [hxE] at h
    split at h
    · exact hxE_in m (k + 1) a h
    · cases h
section
variable {l : List UInt8} {A : Option Addr}
set_option maxHeartbeats 16000000 in
set_option maxRecDepth 100000 in
theorem rnext_str (n c i : Nat) {B : Nat} {x : Int} (w : World) (hn : n = l.length) (hA : Byt w B A l) (hB : B ≤ w.heap.size) (hm : n ≤ 1000000) (hx : x = i) (g : bt l i = 34) :
    Calls Tryz.prog 32 #[.slice A n c, .int .i64 x] w fun e w' => e = .returned (nxA i (nx (l.drop i))) ∧ Below w.heap.size w w' := by
  have hil : i < l.length := bt_in (by omega)
  have E := Lib.hid (nx_str hil g)
  have H2 := byt_two hA hB (rtO 0 0 0) (fvO 0 0)
  have HA := Lib.hid H2
  obtain ⟨b, off, rfl, hb, hc⟩ := H2.at_ hil
  have HC := Lib.hid hc
  have k1 := hc i hil
  rw [g] at k1
  have S := Lib.hid (fun w => rsp_is (c := 34) (b := false) w rfl)
  have D := Lib.hid (fun w => rdg_is (c := 34) (b := false) w rfl)
  have h0 : ¬ x < 0 := by omega
  have h1 : ¬ (n : Int) ≤ x := by omega
  have hin : i < n := by omega
  have hi6 : i ≤ 1000000 := by omega
  subst hx
  have Hn := Lib.hid hn
  have F0 := Lib.hid (RS.start (w := w) (k := 0) (i := 0) (j := 0) (c := 0) (a := 0))
  clear hn hA hB g hil hc hb H2
  go_enter Tryz.func32, Tryz.ntmps32
  go_wp2_with first
    | (go_at_call 46; refine (S.out _).mono ?_; rintro e w' ⟨rfl, rfl⟩)
    | (go_at_call 48; refine (D.out _).mono ?_; rintro e w' ⟨rfl, rfl⟩)
  clear S D k1
  go_loop [6, 7, 10] (fun u v t => ∃ k : Nat, k ≤ n ∧ (∃ y, u = .int .u8 y) ∧ v = .int .i64 k ∧ t = t ∧ Hid (strE l (i + 1) = strE l k)) (fun _ v _ => n - (intOf v).toNat)
  case atStart => exact ⟨i + 1, by omega, ⟨_, rfl⟩, by go_num, by trivial, Lib.hid rfl⟩
  case round =>
    obtain ⟨k, hk, ⟨y, rfl⟩, rfl, _, HS⟩ := hrel
    have hk6 : k ≤ 1000000 := by omega
    by_cases hlt : k < n
    · have kl : k < l.length := by rw [← Hn.out]; exact hlt
      have c1 := HC.out k kl
      have G := Lib.hid (show strE l k = _ by rw [strE, dif_pos kl])
      obtain ⟨d, hd⟩ : ∃ d, d = bt l k := ⟨_, rfl⟩
      have HD := Lib.hid hd
      rw [← hd] at c1
      by_cases h34 : d = 34
      · have R := Lib.hid (show nxA i (nx (l.drop i)) = stA i (.ok (k + 1)) by rw [E.out, HS.out, G.out, ← hd, if_pos h34])
        have F2 := Lib.hid (RS.start (w := w) (k := 4) (i := i) (j := k + 1) (c := 0) (a := 0))
        subst h34
        clear hd G HS kl HD
        go_wp2_with fail
        refine bodyPost_ret (v := .tuple #[rtV 4 i (k + 1), fvV 0 0]) (by simp [results, Tryz.results32, go_sem, *]) rfl ?_
        exact ⟨by rw [R.out]; simp [stA], F2.out.below⟩
      · have q34 : (d == 34) = false := by simpa using h34
        by_cases h32 : d < 32
        · have R := Lib.hid (show nxA i (nx (l.drop i)) = stA i (.bad k) by rw [E.out, HS.out, G.out, ← hd, if_neg h34, if_pos h32])
          clear hd G HS kl HD h34
          go_wp2_with fail
          refine (rsyn_is _ _).mono ?_
          rintro e w1 ⟨rfl, hb⟩
          have F1 := Lib.hid (F0.out.on hb)
          clear hb
          obtain ⟨⟨c0, c1, c2, c3, c4⟩, f0, f1, f2, f3, f4⟩ := F1.out.cells
          go_wp2_with fail
          refine bodyPost_ret (v := .tuple #[rtV 0 0 0, fvV 3 k]) (by simp [results, Tryz.results32, go_sem, *]) rfl ?_
          exact ⟨by rw [R.out]; simp [stA], F1.out.set.below⟩
        · by_cases h92 : d = 92
          · have h92' : bt l k = 92 := by rw [← hd]; exact h92
            subst h92
            clear h34 q34 h32 hd HD
            by_cases hend : k + 1 = n
            · have R := Lib.hid (show nxA i (nx (l.drop i)) = stA i (.bad (k + 1)) by
                rw [E.out, HS.out, G.out, h92', if_neg (by decide), if_neg (by decide), if_neg (by simp), if_pos (by have := Hn.out; omega)])
              have hend' : (k : Int) + 1 = n := by omega
              clear G HS kl h92' hend
              go_wp2_with fail
              refine (rsyn_is _ _).mono ?_
              rintro e w1 ⟨rfl, hb⟩
              have F1 := Lib.hid (F0.out.on hb)
              clear hb
              obtain ⟨⟨c0, c1, c2, c3, c4⟩, f0, f1, f2, f3, f4⟩ := F1.out.cells
              go_wp2_with fail
              refine bodyPost_ret (v := .tuple #[rtV 0 0 0, fvV 3 (k + 1)]) (by simp [results, Tryz.results32, go_sem, *]) rfl ?_
              exact ⟨by rw [R.out]; simp [stA], F1.out.set.below⟩
            · have hk1 : k + 1 < n := by omega
              have hend' : ((k : Int) + 1 == n) = false := by rw [beq_eq_false_iff_ne]; omega
              have kl1 : k + 1 < l.length := by rw [← Hn.out]; exact hk1
              have c2 := HC.out (k + 1) kl1
              obtain ⟨d2, hd2⟩ : ∃ d, d = bt l (k + 1) := ⟨_, rfl⟩
              rw [← hd2] at c2
              have G2 := Lib.hid (show strE l k = (if d2 = 117 then (match h4 l (k + 1) with | some a => .bad a | none => strE l (k + 6)) else if esc d2 = true then strE l (k + 2) else .bad (k + 1)) by
                rw [G.out, h92', if_neg (by decide), if_neg (by decide), if_neg (by simp), if_neg (by have := Hn.out; omega), ← hd2]; rfl)
              clear G h92' kl kl1 hend
              by_cases h117 : d2 = 117
              · have G3 := Lib.hid (show strE l k = (match hxE l 4 (k + 2) with | .bad a => SR.bad a | .ok m => strE l m) by
                  rw [G2.out, if_pos h117, hxE_h4 l (k + 1)]
                  cases h4 l (k + 1) <;> rfl)
                subst h117
                clear G2 hd2
                go_wp2_with fail
                go_loop [10] (fun t => ∃ j m : Nat, m ≤ 4 ∧ t = .int .i64 ((m : Int) + 1) ∧ j + m = 4 ∧ Hid (hxE l 4 (k + 2) = hxE l j (k + 2 + m))) (fun t => 5 - (intOf t).toNat)
                case atStart => exact ⟨4, 0, by omega, rfl, rfl, Lib.hid rfl⟩
                case round =>
                  obtain ⟨j, m, hm4, rfl, hj, HX⟩ := hrel
                  by_cases h4 : m < 4
                  · obtain ⟨j, rfl⟩ : ∃ j', j = j' + 1 := ⟨j - 1, by omega⟩
                    obtain ⟨d3, Hd3⟩ : ∃ d, Hid (d = bt l (k + 2 + m)) := ⟨_, rfl⟩
                    cases hd : hx d3
                    · have DH := Lib.hid (fun w => rhx_is (c := d3) (b := false) w hd.symm)
                      have R := Lib.hid (show nxA i (nx (l.drop i)) = stA i (.bad (k + 2 + m)) by
                        rw [E.out, HS.out, G3.out, HX.out, hxE, ← Hd3.out, hd]; rfl)
                      clear hd HX
                      go_wp2_with first
                        | (go_at_call 47; refine (rat_is n c (k + 2 + m) (v := d3) _ Hn.out HA.out (by omega) Hd3.out).mono ?_; rintro e w' ⟨rfl, rfl⟩)
                        | (go_at_call 50; refine (DH.out _).mono ?_; rintro e w' ⟨rfl, rfl⟩)
                      refine (rsyn_is _ _).mono ?_
                      rintro e w1 ⟨rfl, hb⟩
                      have F1 := Lib.hid (F0.out.on hb)
                      clear hb
                      obtain ⟨⟨c0, c1, c2, c3, c4⟩, f0, f1, f2, f3, f4⟩ := F1.out.cells
                      go_wp2_with fail
                      refine bodyPost_ret (v := .tuple #[rtV 0 0 0, fvV 3 (k + 2 + m)]) (by simp [results, Tryz.results32, go_sem, *] <;> omega) rfl ?_
                      exact ⟨by rw [R.out]; simp [stA], F1.out.set.below⟩
                    · have DH := Lib.hid (fun w => rhx_is (c := d3) (b := true) w hd.symm)
                      have R := Lib.hid (show hxE l 4 (k + 2) = hxE l j (k + 2 + (m + 1)) by rw [HX.out, hxE, ← Hd3.out, hd, if_pos rfl]; rfl)
                      clear hd HX
                      go_wp2_with first
                        | (go_at_call 47; refine (rat_is n c (k + 2 + m) (v := d3) _ Hn.out HA.out (by omega) Hd3.out).mono ?_; rintro e w' ⟨rfl, rfl⟩)
                        | (go_at_call 50; refine (DH.out _).mono ?_; rintro e w' ⟨rfl, rfl⟩)
                      go_round
                      case rel => exact ⟨j, m + 1, by omega, by go_num, by omega, R⟩
                      case measure => simp [intOf]; omega
                  · obtain rfl : m = 4 := by omega
                    obtain rfl : j = 0 := by omega
                    have R := Lib.hid (show strE l (i + 1) = strE l (k + 6) by rw [HS.out, G3.out, HX.out]; rfl)
                    have hx6 : k + 6 ≤ n := by
                      have h1 := hxE_in (l := l) 3 (k + 2) (k + 2 + 4) (by rw [HX.out]; rfl)
                      have h2 := Hn.out
                      omega
                    clear HX
                    go_wp2_with fail
                    go_round
                    case rel => exact ⟨k + 6, hx6, ⟨_, rfl⟩, by go_num, by trivial, R⟩
                    case measure => simp [intOf]; omega
              · have q117 : (d2 == 117) = false := by simpa using h117
                cases he : esc d2
                · have R := Lib.hid (show nxA i (nx (l.drop i)) = stA i (.bad (k + 1)) by rw [E.out, HS.out, G2.out, if_neg h117, he]; rfl)
                  have ne := of_decide_eq_false he
                  have n1 : (d2 != 34) = true := by rw [bne_iff_ne]; omega
                  have n2 : (d2 != 92) = true := by rw [bne_iff_ne]; omega
                  have n3 : (d2 != 47) = true := by rw [bne_iff_ne]; omega
                  have n4 : (d2 != 98) = true := by rw [bne_iff_ne]; omega
                  have n5 : (d2 != 102) = true := by rw [bne_iff_ne]; omega
                  have n6 : (d2 != 110) = true := by rw [bne_iff_ne]; omega
                  have n7 : (d2 != 114) = true := by rw [bne_iff_ne]; omega
                  have n8 : (d2 != 116) = true := by rw [bne_iff_ne]; omega
                  clear ne he h117 G2 HS hd2
                  go_wp2_with fail
                  refine (rsyn_is _ _).mono ?_
                  rintro e w1 ⟨rfl, hb⟩
                  have F1 := Lib.hid (F0.out.on hb)
                  clear hb
                  obtain ⟨⟨c0, c1, c2, c3, c4⟩, f0, f1, f2, f3, f4⟩ := F1.out.cells
                  go_wp2_with fail
                  refine bodyPost_ret (v := .tuple #[rtV 0 0 0, fvV 3 (k + 1)]) (by simp [results, Tryz.results32, go_sem, *]) rfl ?_
                  exact ⟨by rw [R.out]; simp [stA], F1.out.set.below⟩
                · have R := Lib.hid (show strE l (i + 1) = strE l (k + 2) by rw [HS.out, G2.out, if_neg h117, he, if_pos rfl])
                  have hv := of_decide_eq_true he
                  clear he h117 q117 G2 HS hd2
                  rcases hv with rfl | rfl | rfl | rfl | rfl | rfl | rfl | rfl
                  all_goals
                    go_wp2_with fail
                    go_round
                    case rel => exact ⟨k + 2, by omega, ⟨_, rfl⟩, by go_num, by trivial, R⟩
                    case measure => simp [intOf]; omega
          · have n92 : (d != 92) = true := by rw [bne_iff_ne]; exact h92
            have R := Lib.hid (show strE l (i + 1) = strE l (k + 1) by rw [HS.out, G.out, ← hd, if_neg h34, if_neg h32, if_pos h92])
            clear hd G HS kl HD h34 h92
            go_wp2_with fail
            go_round
            case rel => exact ⟨k + 1, by omega, ⟨_, rfl⟩, by go_num, by trivial, R⟩
            case measure => simp [intOf]; omega
    · have R := Lib.hid (show nxA i (nx (l.drop i)) = stA i (.bad n) by
        rw [E.out, HS.out, strE, dif_neg (by rw [← Hn.out]; exact hlt), Hn.out])
      clear HS
      go_wp2_with fail
      refine (rsyn_is _ _).mono ?_
      rintro e w1 ⟨rfl, hb⟩
      have F1 := Lib.hid (F0.out.on hb)
      clear hb
      obtain ⟨⟨c0, c1, c2, c3, c4⟩, f0, f1, f2, f3, f4⟩ := F1.out.cells
      go_wp2_with fail
      refine bodyPost_ret (v := .tuple #[rtV 0 0 0, fvV 3 n]) (by simp [results, Tryz.results32, go_sem, *]) rfl ?_
      exact ⟨by rw [R.out]; simp [stA], F1.out.set.below⟩
end
end Jk
end Go.Proofs.YtdclhepjoifpiaaGreatDoor
