/- The law Utf8sBack, walked: it answers true, and nothing that was there is turned. -/
import Derived.Test.YtllnnogdpagioaaDoorBackM
import Derived.Test.YtllnnogdpagioaaDoorLawCheck
namespace Go.Proofs.YtllnnogdpagioaaDoor
open Go.RowKit

theorem lawback_long {l : List Int} {A : Option Addr} {n c : Nat} {w : World} (ha : ArgN w A n c l) (hT : Tab w) (h : 500 < n) :
    Calls Tryd.prog 6 #[.slice A n c] w fun e w' => e = .returned (.bool true) ∧ Below w.heap.size w w' := by
  obtain ⟨_, h1, h2, _⟩ := ha
  unfold maxLen at h2
  have HT := Lib.hid hT
  clear hT
  have h' : (500 : Int) < n := by omega
  go_enter Tryd.func6, Tryd.ntmps6
  go_wp2_with (go_at_call 9; refine (lives_tab HT.out).mono ?_; rintro e w' ⟨rfl, hb⟩)
  go_ret
  exact ⟨rfl, hb⟩

set_option maxHeartbeats 4000000 in
set_option maxRecDepth 100000 in
theorem lawback_short {l : List Int} {A : Option Addr} {n c : Nat} {w : World} (ha : ArgN w A n c l) (hT : Tab w) (h : n ≤ 500) :
    Calls Tryd.prog 6 #[.slice A n c] w fun e w' => e = .returned (.bool true) ∧ Below w.heap.size w w' := by
  have HT := Lib.hid hT
  obtain ⟨hn, hnc, hcm, hA, _⟩ := ha
  have hcm' := hcm
  unfold maxLen at hcm'
  have Hn := Lib.hid hn
  have h' : ¬ (500 : Int) < n := by omega
  have h1 := hT.2.2
  obtain ⟨N, HN⟩ : ∃ N, Hid (N = (putI l).length) := ⟨_, rfl⟩
  have hN : N ≤ 2000 := by have := HN.out; have h2 := putTo_len l l.length; rw [← hn] at h2; unfold putI at this; rw [← hn] at this; omega
  have HNb := Lib.hid (show N = (pub l).length by rw [← puts_pub]; simp [puts]; exact HN.out)
  have HB := Lib.hid (pub_back l)
  have HR := Lib.hid (show n = (l.map knw).length by simp; exact hn)
  clear hT hn
  go_enter Tryd.func6, Tryd.ntmps6
  go_wp2_with fail
  refine (puts_is n c w.heap.size N Hn.out hA (Nat.le_refl _) (by omega) HT.out.2.1 HT.out.2.2 rfl rfl HN.out).mono ?_
  rintro e w1 ⟨rfl, hown1, hb1⟩
  have hs1 := (hown1.lt _ rfl).2
  have hX1 : Byt w1 w1.heap.size (some ⟨w.heap.size, 0, none⟩) (pub l) := by rw [← puts_pub]; exact own_byt (putTo_bd l _) hown1
  have HT1 := Lib.hid (HT.out.below hb1 h1)
  clear hown1
  go_wp2_with fail
  refine (check_is (x := 0) (p := true) N N HNb.out (Nat.le_refl _) hX1 (by unfold maxLen; omega) (by rw [chkAt, if_pos HB.out.1]) (by simp [chkOk, HB.out.1])).mono ?_
  rintro e w' ⟨rfl, rfl⟩
  go_wp2_with fail
  refine (runes_is (r := l.map knw) N N w1.heap.size n HNb.out (Nat.le_refl _) hX1 (Nat.le_refl _) (by unfold maxLen; omega) (by omega) HT1.out.1 (by omega) HB.out.2.symm rfl HR.out).mono ?_
  rintro e w2 ⟨rfl, hown2, hb2⟩
  have hs2 := (hown2.lt _ rfl).2
  have hN2 := own_num hown2
  have hX2 := hX1.below hb2
  have hb12 : Below w.heap.size w w2 := hb1.trans (hb2.mono (Nat.le_of_lt hs1))
  have hA2 : Num w2 w.heap.size A l := Lst.below hA hb12
  have HT2 := Lib.hid (HT.out.below hb12 h1)
  clear hown2 hX1 hb1 hb2
  obtain ⟨s, HS⟩ : ∃ s : ByteArray, Hid (s = ⟨(pub l).toArray⟩) := ⟨_, rfl⟩
  have hconv := conv_bytes N N HNb.out hX2
  rw [← HS.out] at hconv
  have HZ := Lib.hid (show s.size = (pub l).length by rw [HS.out]; simp [ByteArray.size])
  clear hX2
  go_wp2
  go_loopw [7] (fun a wr => ∃ k : Nat, k ≤ n ∧ a = .int .i64 k ∧ wr = w2.iter s (pos l k)) (fun a _ => n - (intOf a).toNat)
  case atStart => exact ⟨0, Nat.zero_le _, rfl, rfl⟩
  case round =>
    obtain ⟨k, hk, rfl, rfl⟩ := hrel
    clear hconv
    by_cases hlt : k < n
    · have hkl : k < l.length := by have := Hn.out; omega
      have hp : pos l k < s.size := by rw [HZ.out]; exact pos_lt hkl
      have hd := decode_pub hkl
      rw [← HS.out] at hd
      obtain ⟨X, HX⟩ : ∃ X : Nat, Hid ((X : Int) = knw (it l k)) := ⟨(knw (it l k)).toNat, by have := (knw_bd (it l k)).1; show (((knw (it l k)).toNat : Nat) : Int) = _; omega⟩
      have hX : X ≤ 1114111 := by have := (knw_bd (it l k)).2; have := HX.out; omega
      obtain ⟨Q, HQ⟩ : ∃ Q : Nat, Hid (pos l (k + 1) = Q) := ⟨_, rfl⟩
      have hnx : ∀ ty, (Instr.next (.pointer (some ⟨w2.heap.size, 0, none⟩)) true ty).run Tryd.prog (w2.iter s (pos l k)) = .ok (.tuple #[.bool true, .int .i64 (pos l k), .int .i32 (X : Int)]) (w2.iter s Q) := fun ty => by
        rw [run_next_any w2 s (pos l k) ty hp, hd, ← HQ.out, pos_next hkl]
        have e : (((knw (it l k)).toNat : Nat) : Int) = X := by have := (knw_bd (it l k)).1; have := HX.out; omega
        simp only [e]
      obtain ⟨b, off, e1, _, hc⟩ := hN2.at_ (k := k) (by have := HR.out; omega)
      injection e1 with e1
      injection e1 with e1 e2
      subst e1; subst e2
      have hck : (w2.iter s Q).cell? ⟨w1.heap.size, k, none⟩ = some (.int .i64 (X : Int)) := by
        have h2 := hc k (by have := HR.out; omega)
        rw [Nat.zero_add] at h2
        have h3 : (w2.iter s Q).cell? ⟨w1.heap.size, k, none⟩ = w2.cell? ⟨w1.heap.size, k, none⟩ := World.cell?_alloc_lt w2 _ _ hs2
        rw [h3, h2, HX.out]
        simp [it, hkl]
      clear hc hd hp
      go_wp2
      go_roundw
      case rel => exact ⟨k + 1, by omega, by go_num, by rw [HQ.out]⟩
      case measure => simp [intOf]; omega
    · obtain rfl : n = k := by omega
      have hnx : ∀ ty, (Instr.next (.pointer (some ⟨w2.heap.size, 0, none⟩)) true ty).run Tryd.prog (w2.iter s (pos l n)) = _ := fun ty => run_next_end w2 s (pos l n) ty (by rw [HZ.out, Hn.out, pos_all]; omega)
      obtain ⟨w3, hw3⟩ : ∃ w3, w3 = w2.iter s (pos l n) := ⟨_, rfl⟩
      have hb3 : Below w.heap.size w w3 := by rw [hw3]; exact hb12.alloc hb12.size _
      have hN3 : Num w3 w2.heap.size (some ⟨w1.heap.size, 0, none⟩) (l.map knw) := by rw [hw3]; exact Lst.alloc hN2 (Nat.le_refl _) _
      have hA3 : Num w3 w.heap.size A l := Lst.below hA hb3
      rw [← hw3] at hnx ⊢
      clear hw3 hN2 hA2
      go_wp2
      have HT3 := Lib.hid (HT.out.below hb3 h1)
      clear hnx
      go_loopw [10] (fun a wr => ∃ k q : Nat, k ≤ n ∧ a = .int .i64 k ∧ wr = w3.drewN q) (fun a _ => n - (intOf a).toNat)
      case atStart => exact ⟨0, 0, Nat.zero_le _, rfl, rfl⟩
      case round =>
        obtain ⟨k, q, hk, rfl, rfl⟩ := hrel
        by_cases hlt : k < n
        · have hki : (k : Int) < n := by omega
          obtain ⟨b, off, rfl, _, hc⟩ := hA3.at_ (k := k) (by have := Hn.out; omega)
          obtain ⟨x, HX⟩ : ∃ x, Hid (it l k = x) := ⟨_, rfl⟩
          have hck : w3.cell? ⟨b, off + k, none⟩ = some (.int .i64 x) := by rw [← HX.out]; exact hc k (by have := Hn.out; omega)
          obtain ⟨b2, off2, e1, _, hc2⟩ := hN3.at_ (k := k) (by have := HR.out; omega)
          injection e1 with e1
          injection e1 with e1 e2
          subst e1; subst e2
          have HG := Lib.hid (show w3.cell? ⟨w1.heap.size, k, none⟩ = some (.int .i64 (knw (it l k))) by
            have h2 := hc2 k (by have := HR.out; omega)
            rw [Nat.zero_add] at h2
            rw [h2]
            simp [it, show k < l.length by have := Hn.out; omega])
          clear hc hc2
          by_cases g1 : x < 0
          ·
            have hrk : w3.cell? ⟨w1.heap.size, k, none⟩ = some (.int .i64 65533) := by rw [HG.out, HX.out]; congr 2; rw [knw, if_neg (by omega)]
            go_wp2
            go_quiet (fail)
            go_wp2
            go_roundw
            case rel => exact ⟨k + 1, _, by omega, by go_num, rfl⟩
            case measure => simp [intOf]; omega
          by_cases g2 : 1114111 < x
          · have g1' : 0 ≤ x := by omega
            have hrk : w3.cell? ⟨w1.heap.size, k, none⟩ = some (.int .i64 65533) := by rw [HG.out, HX.out]; congr 2; rw [knw, if_neg (by omega)]
            go_wp2
            go_quiet (fail)
            go_wp2
            go_roundw
            case rel => exact ⟨k + 1, _, by omega, by go_num, rfl⟩
            case measure => simp [intOf]; omega
          have g1' : 0 ≤ x := by omega
          have g2' : x ≤ 1114111 := by omega
          by_cases g3 : x < 55296
          ·
            have hrk : w3.cell? ⟨w1.heap.size, k, none⟩ = some (.int .i64 x) := by rw [HG.out, HX.out]; congr 2; rw [knw, if_pos (by omega)]
            go_wp2
            go_quiet (fail)
            go_wp2
            go_roundw
            case rel => exact ⟨k + 1, _, by omega, by go_num, rfl⟩
            case measure => simp [intOf]; omega
          by_cases g4 : 57343 < x
          ·
            have hrk : w3.cell? ⟨w1.heap.size, k, none⟩ = some (.int .i64 x) := by rw [HG.out, HX.out]; congr 2; rw [knw, if_pos (by omega)]
            go_wp2
            go_quiet (fail)
            go_wp2
            go_roundw
            case rel => exact ⟨k + 1, _, by omega, by go_num, rfl⟩
            case measure => simp [intOf]; omega
          ·
            have hrk : w3.cell? ⟨w1.heap.size, k, none⟩ = some (.int .i64 65533) := by rw [HG.out, HX.out]; congr 2; rw [knw, if_neg (by omega)]
            go_wp2
            go_quiet (fail)
            go_wp2
            go_roundw
            case rel => exact ⟨k + 1, _, by omega, by go_num, rfl⟩
            case measure => simp [intOf]; omega
        · obtain rfl : n = k := by omega
          have hbq : Below w.heap.size w (w3.drewN q) := below_drewN hb3 q
          have HT4 := Lib.hid (HT.out.below hbq h1)
          go_wp2_with (go_at_call 9; refine (lives_tab HT4.out).mono ?_; rintro e w4 ⟨rfl, hb4⟩)
          go_ret
          exact ⟨rfl, hbq.trans (hb4.mono hbq.size)⟩
/-- The law Utf8sBack. -/
theorem lawback_any {l : List Int} {A : Option Addr} {n c : Nat} {w : World} (ha : ArgN w A n c l) (hT : Tab w) :
    Calls Tryd.prog 6 #[.slice A n c] w fun e w' => e = .returned (.bool true) ∧ Below w.heap.size w w' := by
  by_cases h : 500 < n
  · exact lawback_long ha hT h
  · exact lawback_short ha hT (by omega)
end Go.Proofs.YtllnnogdpagioaaDoor
