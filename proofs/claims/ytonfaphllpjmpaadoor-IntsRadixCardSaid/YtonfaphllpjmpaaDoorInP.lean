/- The law's marks, walked. -/
import Derived.Test.YtonfaphllpjmpaaDoorInN
import Derived.Test.YtonfaphllpjmpaaDoorInK
namespace Go.Proofs.YtonfaphllpjmpaaDoor
open Go.RowKit

/-- Where the law puts a mark. -/
def mf (a : Nat) (i : Nat) : Bool := decide (a / 2 ^ (i % 64) % 2 = 1)
theorem and1 (y : Nat) (hy : y < 18446744073709551616) : bits .and .u64 (y : Int) 1 = ((y % 2 : Nat) : Int) := and64 y 1 hy (by omega)
theorem mkL_on (f : Nat → Bool) {k : Nat} {l : List UInt8} (hk : k + 1 < l.length) : In.mkL f k (l.drop k) = l[k] :: ((if f k = true then [95] else []) ++ In.mkL f (k + 1) (l.drop (k + 1))) := by
  rw [List.drop_eq_getElem_cons (by omega : k < l.length)]
  obtain ⟨d, r, e⟩ : ∃ d r, l.drop (k + 1) = d :: r := ⟨_, _, List.drop_eq_getElem_cons hk⟩
  rw [e]
  show l[k] :: (if f k = true then 95 :: In.mkL f (k + 1) (d :: r) else In.mkL f (k + 1) (d :: r)) = _
  split <;> rfl
theorem mkL_off (f : Nat → Bool) {k : Nat} {l : List UInt8} (hk : k + 1 = l.length) : In.mkL f k (l.drop k) = [l[k]'(by omega)] := by
  rw [List.drop_eq_getElem_cons (by omega : k < l.length), List.drop_eq_nil_of_le (by omega)]
  rfl
set_option maxHeartbeats 8000000 in
set_option maxRecDepth 100000 in
theorem mark_any {l : List UInt8} {s : ByteArray} (a : Nat) (ha : a < 18446744073709551616) (w : World) (hs : s = txt l) (hl : l.length ≤ 1000) :
    Calls Tryd.prog 15 #[.string s, .int .u64 a] w fun e w' => e = .returned (.string (txt (In.mkL (mf a) 0 l))) ∧ w = w' := by
  have HS := Lib.hid hs
  have HZ := Lib.hid (show s.size = l.length by rw [hs, txt_size])
  have hsz : s.size ≤ 1000 := by rw [HZ.out]; exact hl
  have a0 : (0 : Int) ≤ a := by omega
  have HA := Lib.hid ha
  clear hs hl ha
  go_enter Tryd.func15, Tryd.ntmps15
  go_wp2_with fail
  go_loop [5, 6] (fun o i => ∃ (k : Nat) (T : ByteArray) (M : List UInt8), k ≤ s.size ∧ o = .string T ∧ i = .int .i64 k ∧ T = txt M ∧ M.length ≤ 2 * k ∧ In.mkL (mf a) 0 l = M ++ In.mkL (mf a) k (l.drop k)) (fun _ i => s.size - (intOf i).toNat)
  case atStart => exact ⟨0, _, [], Nat.zero_le _, rfl, rfl, rfl, Nat.le_refl _, rfl⟩
  case round =>
    obtain ⟨k, T, M, hk, rfl, rfl, hT, hMl, hM⟩ := hrel
    have HT := Lib.hid hT
    have HM := Lib.hid hM
    have HML := Lib.hid hMl
    have hTs : T.size ≤ 2000 := by rw [hT, txt_size]; omega
    clear hT hM hMl
    by_cases h1 : k < s.size
    · have h1' : (k : Int) < s.size := by omega
      have hkl : k < l.length := by rw [← HZ.out]; exact h1
      obtain ⟨q, HQ⟩ : ∃ q : Nat, Hid (q = k % 64) := ⟨_, Lib.hid rfl⟩
      have q64 : (q : Int) ≤ 64 := by have := HQ.out; omega
      have t1 : (k : Int).tmod 64 = q := by rw [HQ.out, Int.tmod_eq_emod_of_nonneg (by omega)]; omega
      have t2 : wrap64 ((k : Int) + 1) = (k : Int) + 1 := by unfold wrap64; omega
      obtain ⟨U, HU⟩ : ∃ U, s.extract k (k + 1) = U := ⟨_, rfl⟩
      have HUU := Lib.hid (show U = txt [l[k]] by
        rw [← HU, HS.out, txt_cut]
        congr 1
        rw [List.take_succ_eq_append_getElem hkl, List.drop_append_of_le_length (by simp; omega), List.drop_eq_nil_of_le (by simp; omega)]
        rfl)
      have hUs : U.size = 1 := by rw [HUU.out, txt_size]; rfl
      obtain ⟨g, HG⟩ : ∃ g, Hid (g = mf a k) := ⟨_, rfl⟩
      have hg : (bits .and .u64 ((a : Int) / 2 ^ q) 1 == 1) = g := by
        have e : ((a : Int) / 2 ^ q) = ((a / 2 ^ q : Nat) : Int) := by simp
        rw [e, and1 _ (Nat.lt_of_le_of_lt (Nat.div_le_self _ _) HA.out), HG.out, mf, HQ.out]
        by_cases hh : a / 2 ^ (k % 64) % 2 = 1
        · rw [decide_eq_true hh, hh]; rfl
        · rw [decide_eq_false hh]
          have : a / 2 ^ (k % 64) % 2 = 0 := by omega
          rw [this]; rfl
      by_cases h2 : k + 1 < s.size
      · have h2' : (k : Int) + 1 < s.size := by omega
        have HON := Lib.hid (mkL_on (mf a) (k := k) (l := l) (by rw [← HZ.out]; exact h2))
        cases g
        · go_wp2_with fail
          go_round
          case rel => exact ⟨k + 1, _, M ++ [l[k]'(by rw [← HZ.out]; exact h1)], by omega, rfl, by go_num, by rw [HT.out, HUU.out, txt_app], by have := HML.out; simp; omega, by rw [HM.out, HON.out, ← HG.out]; simp⟩
          case measure => simp [intOf]; omega
        · go_wp2_with fail
          go_round
          case rel => exact ⟨k + 1, _, M ++ [l[k]'(by rw [← HZ.out]; exact h1)] ++ [95], by omega, rfl, by go_num, by rw [HT.out, HUU.out, txt_app, show (⟨#[95]⟩ : ByteArray) = txt [95] from rfl, txt_app], by have := HML.out; simp; omega, by rw [HM.out, HON.out, ← HG.out]; simp⟩
          case measure => simp [intOf]; omega
      · have h2' : ¬ (k : Int) + 1 < s.size := by omega
        have HOFF := Lib.hid (mkL_off (mf a) (k := k) (l := l) (by rw [← HZ.out]; omega))
        have HEND := Lib.hid (show In.mkL (mf a) (k + 1) (l.drop (k + 1)) = [] by rw [List.drop_eq_nil_of_le (by rw [← HZ.out]; omega)]; rfl)
        clear hg
        go_wp2_with fail
        go_round
        case rel => exact ⟨k + 1, _, M ++ [l[k]'(by rw [← HZ.out]; exact h1)], by omega, rfl, by go_num, by rw [HT.out, HUU.out, txt_app], by have := HML.out; simp; omega, by rw [HM.out, HOFF.out, HEND.out]; simp⟩
        case measure => simp [intOf]; omega
    · obtain rfl : k = s.size := by omega
      have HEND := Lib.hid (show In.mkL (mf a) s.size (l.drop s.size) = [] by rw [List.drop_eq_nil_of_le (by rw [← HZ.out]; omega)]; rfl)
      go_wp2_with fail
      go_ret
      exact ⟨by rw [HT.out, HM.out, HEND.out, List.append_nil]; rfl, rfl⟩
end Go.Proofs.YtonfaphllpjmpaaDoor
