/- What landed: where a string ends. -/
import Derived.Test.YtfnahondlcbjnaaUd
namespace Go.Proofs.Ytfnahondlcbjnaa
open Go.RowKit
namespace Jk

theorem strE_esc {l : List UInt8} {k : Nat} (hk : k < l.length) (h : bt l k = 92) : strE l k = match escE l k with | .ok m => strE l m | .bad m => .bad m := by
  rw [strE, dif_pos hk, if_neg (by rw [h]; decide), if_neg (by rw [h]; decide), if_neg (by rw [h]; simp), escE]
  by_cases h1 : k + 1 = l.length
  · rw [if_pos h1]
    have e : bt l (k + 1) = 0 := bt_far (by omega)
    rw [e, if_neg (by decide), if_neg (by decide)]
  · rw [if_neg h1]
    by_cases h2 : bt l (k + 1) = 117
    · rw [if_pos h2, if_neg (by rw [h2]; decide), if_pos h2]
      cases h4 l (k + 1) <;> rfl
    · rw [if_neg h2]
      by_cases h3 : esc (bt l (k + 1)) = true
      · rw [if_pos h3, if_pos h3]
      · rw [if_neg h3, if_neg h3, if_neg h2]
theorem escE_ok {l : List UInt8} {k m : Nat} (h : escE l k = .ok m) : k < m ∧ m ≤ l.length := by
  unfold escE at h
  split at h
  · rename_i g; have := esc_in g; injection h with h; omega
  · split at h
    · cases hq : h4 l (k + 1) with
      | some a => rw [hq] at h; cases h
      | none => rw [hq] at h; have := hx_in (h4_none hq).2.2.2; injection h with h; omega
    · cases h
section
variable {l : List UInt8} {B : Nat} {A : Option Addr}
set_option maxHeartbeats 4000000 in
theorem stringEnd_is (n c i : Nat) {x : Int} (w : World) (hF : Forms) (hn : n = l.length) (hA : Byt w B A l) (hm : n ≤ 1000000) (hx : x = i) (hi : i < l.length) :
    Calls Try.prog 28 #[.slice A n c, .int .i64 x] w fun e w' => e = .returned (srV (strE l (i + 1))) ∧ w = w' := by
  subst hx
  have hin : i < n := by omega
  have hw1 : wrap64 ((i : Int) + 1) = ((i + 1 : Nat) : Int) := by unfold wrap64; omega
  have HF := Lib.hid hF
  have Hn := Lib.hid hn
  have HA := Lib.hid hA
  obtain ⟨b, off, rfl, _, hc⟩ := hA.at_ hi
  have HC := Lib.hid hc
  clear hF hn hA hc hi
  go_enter Try.func28, Try.ntmps28
  go_wp2_with fail
  go_loop [4, 5] (fun s t => ∃ k : Nat, k ≤ n ∧ s = .int .i64 k ∧ (∃ q, t = .bool q) ∧ Hid (strE l (i + 1) = strE l k)) (fun s _ => n - (intOf s).toNat)
  case atStart => exact ⟨i + 1, by omega, rfl, ⟨_, rfl⟩, Lib.hid rfl⟩
  case round =>
    obtain ⟨k, hk, rfl, ⟨q, rfl⟩, HS⟩ := hrel
    have hw2 : wrap64 ((k : Int) + 1) = ((k + 1 : Nat) : Int) := by unfold wrap64; omega
    by_cases hlt : k < n
    · have kl : k < l.length := by rw [← Hn.out]; exact hlt
      have c1 := HC.out k kl
      have G := Lib.hid (show strE l k = _ by rw [strE, dif_pos kl])
      obtain ⟨d, hd⟩ : ∃ d, d = bt l k := ⟨_, rfl⟩
      have HD := Lib.hid hd
      rw [← hd] at c1
      by_cases h32 : d < 32
      · have R := Lib.hid (show strE l (i + 1) = .bad k by
          rw [HS.out, G.out, ← hd, if_neg (by omega), if_pos h32])
        have h32' : ¬ 32 ≤ d := by omega
        clear hd G HS kl h32
        go_wp2_with fail
        refine bodyPost_ret (v := .tuple #[.int .i64 k, .bool false]) (by simp [results, Try.results28, go_sem, *]) rfl ?_
        exact ⟨by rw [R.out]; rfl, rfl⟩
      · have h32' : 32 ≤ d := by omega
        by_cases h34 : d = 34
        · have R := Lib.hid (show strE l (i + 1) = .ok (k + 1) by rw [HS.out, G.out, ← hd, if_pos h34])
          subst h34
          clear hd G HS kl h32
          go_wp2_with fail
          refine bodyPost_ret (v := .tuple #[.int .i64 ((k + 1 : Nat) : Int), .bool true]) (by simp [results, Try.results28, go_sem, *]) rfl ?_
          exact ⟨by rw [R.out]; rfl, rfl⟩
        · have q34 : (d == 34) = false := by simpa using h34
          by_cases h92 : d = 92
          · have T : strE l k = match escE l k with | .ok m => strE l m | .bad m => .bad m := strE_esc kl (by rw [← hd]; exact h92)
            have C := Lib.hid (fun w hA => escapeEnd_is (A := some ⟨b, off, none⟩) (B := B) n c k (x := k) w HF.out Hn.out hA hm rfl (by omega))
            subst h92
            cases he : escE l k with
            | ok m =>
              rw [he] at T C
              have T := T
              simp only at T
              have hm2 := escE_ok he
              have hmn : m ≤ n := by rw [Hn.out]; exact hm2.2
              have hkm : k < m := hm2.1
              have R := Lib.hid (HS.out.trans T)
              simp only [srV] at C
              clear hd G HS kl T he h34 hm2 h32
              go_wp2_with fail
              refine (C.out _ HA.out).mono ?_
              rintro e w' ⟨rfl, rfl⟩
              go_wp2_with fail
              go_round
              case rel => exact ⟨m, hmn, rfl, ⟨_, rfl⟩, R⟩
              case measure => simp [intOf]; omega
            | bad m =>
              rw [he] at T C
              simp only at T
              have R := Lib.hid (HS.out.trans T)
              simp only [srV] at C
              clear hd G HS kl T he h34 h32
              go_wp2_with fail
              refine (C.out _ HA.out).mono ?_
              rintro e w' ⟨rfl, rfl⟩
              go_wp2_with fail
              refine bodyPost_ret (v := .tuple #[.int .i64 (m : Nat), .bool false]) (by simp [results, Try.results28, go_sem, *]) rfl ?_
              exact ⟨by rw [R.out]; rfl, rfl⟩
          · have q92 : (d == 92) = false := by simpa using h92
            have R := Lib.hid (show strE l (i + 1) = strE l (k + 1) by
              rw [HS.out, G.out, ← hd, if_neg h34, if_neg (by omega), if_pos h92])
            clear hd G HS kl h34 h92 h32
            go_wp2_with fail
            go_round
            case rel => exact ⟨k + 1, by omega, rfl, ⟨_, rfl⟩, R⟩
            case measure => simp [intOf]; omega
    · have R := Lib.hid (show strE l (i + 1) = .bad k by
        rw [HS.out, strE, dif_neg (by rw [← Hn.out]; exact hlt), show k = l.length by have := Hn.out; omega])
      clear HS
      go_wp2_with fail
      refine bodyPost_ret (v := .tuple #[.int .i64 k, .bool false]) (by simp [results, Try.results28, go_sem, *]) rfl ?_
      exact ⟨by rw [R.out]; rfl, rfl⟩
end
end Jk
end Go.Proofs.Ytfnahondlcbjnaa
