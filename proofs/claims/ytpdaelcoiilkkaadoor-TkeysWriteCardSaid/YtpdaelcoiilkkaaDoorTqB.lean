/- Strings of TOML: what is written is read, whatever stands behind (lists alone). -/
import Derived.Test.YtpdaelcoiilkkaaDoorTqM
namespace Go.Proofs.YtpdaelcoiilkkaaDoor

namespace Tq
theorem dig_hxU {d : Nat} (h : d < 16) : Qu.dig (hxU d) = some d := by
  have : (List.range 16).all (fun d => Qu.dig (hxU d) == some d) = true := by decide +kernel
  have := (List.all_eq_true.1 this) d (List.mem_range.2 h)
  simpa using this
/-- A written byte is one unit, whatever stands behind. -/
theorem es_u {a b : Nat} (ha : a < 8) (hb : b < 16) (r : List UInt8) : es (117 :: 48 :: 48 :: hxU a :: hxU b :: r) = .ok [UInt8.ofNat (16 * a + b)] 6 := by
  have e : Qu.hx 4 0 (48 :: 48 :: hxU a :: hxU b :: r) = .inr (16 * a + b, r) := by
    have d0 : Qu.dig 48 = some 0 := by decide
    simp only [Qu.hx, d0, dig_hxU (show a < 16 by omega), dig_hxU hb]
    congr 2; omega
  have s : sh 117 = none := by decide
  simp only [es, s]
  rw [if_pos trivial, num, e]
  have hs : sur (16 * a + b) = false := by simp [sur]; omega
  simp only [hs]
  have hp : Qu.pt (16 * a + b) = [UInt8.ofNat (16 * a + b)] := by rw [Qu.pt, if_pos (by omega)]
  simp [hp]
theorem es_sh {d b : UInt8} (h : sh d = some b) (r : List UInt8) : es (d :: r) = .ok [b] 2 := by simp only [es, h]
theorem st_esc {r : List UInt8} {t : List UInt8} {k : Nat} (h : es r = .ok t k) : st 34 false (92 :: r) = .go k t := by
  simp only [st]
  rw [if_neg (by decide), if_pos ⟨trivial, trivial⟩]
  simp [esS, h]
theorem st_plain {c : UInt8} (r : List UInt8) (h1 : c ≠ 34) (h2 : c ≠ 92) (h3 : pl c = true) : st 34 false (c :: r) = .go 1 [c] := by
  simp only [st]
  rw [if_neg h1, if_neg (fun h => h2 h.1), if_neg (by simp), if_pos h3]
/-- The last form of a written byte. -/
theorem we_ctl {c : UInt8} (h : pl c = false) (h1 : c ≠ 8) (h3 : c ≠ 10) (h4 : c ≠ 12) (h5 : c ≠ 13) : c.toNat / 16 < 8 ∧ we c = [92, 117, 48, 48, hxU (c.toNat / 16), hxU (c.toNat % 16)] := by
  have := Qu.byte_all (p := fun c => pl c || c == 8 || c == 10 || c == 12 || c == 13 || (decide (c.toNat / 16 < 8) && we c == [92, 117, 48, 48, hxU (c.toNat / 16), hxU (c.toNat % 16)])) (by decide +kernel) c
  simpa [h, h1, h3, h4, h5] using this
theorem we_plain {c : UInt8} (h : pl c = true) (h1 : c ≠ 34) (h2 : c ≠ 92) (h3 : c ≠ 9) : we c = [c] := by
  have := Qu.byte_all (p := fun c => !pl c || c == 34 || c == 92 || c == 9 || we c == [c]) (by decide +kernel) c
  simpa [h, h1, h2, h3] using this
theorem st_we (c : UInt8) (r : List UInt8) : st 34 false (we c ++ r) = .go (we c).length [c] := by
  by_cases c8 : c = 8
  · subst c8; exact st_esc (es_sh (by decide) r)
  by_cases c9 : c = 9
  · subst c9; exact st_esc (es_sh (by decide) r)
  by_cases c10 : c = 10
  · subst c10; exact st_esc (es_sh (by decide) r)
  by_cases c12 : c = 12
  · subst c12; exact st_esc (es_sh (by decide) r)
  by_cases c13 : c = 13
  · subst c13; exact st_esc (es_sh (by decide) r)
  by_cases c34 : c = 34
  · subst c34; exact st_esc (es_sh (by decide) r)
  by_cases c92 : c = 92
  · subst c92; exact st_esc (es_sh (by decide) r)
  cases hp : pl c with
  | true =>
    rw [we_plain hp c34 c92 c9]
    exact st_plain r c34 c92 hp
  | false =>
    obtain ⟨h8, hw⟩ := we_ctl hp c8 c10 c12 c13
    rw [hw]
    have := es_u h8 (show c.toNat % 16 < 16 by omega) r
    rw [show 16 * (c.toNat / 16) + c.toNat % 16 = c.toNat by omega, show UInt8.ofNat c.toNat = c by simp] at this
    exact st_esc this
theorem we_len (c : UInt8) : 0 < (we c).length ∧ (we c).length ≤ 6 := by
  have := Qu.byte_all (p := fun c => decide (0 < (we c).length ∧ (we c).length ≤ 6)) (by decide +kernel) c
  simpa using this
theorem wes_cons (c : UInt8) (t : List UInt8) : wes (c :: t) = we c ++ wes t := rfl
theorem pre_pre (a b : Nat) (s t : List UInt8) (x : R) : (x.pre b t).pre a s = x.pre (a + b) (s ++ t) := by
  cases x <;> simp [R.pre, Nat.add_assoc]
theorem rs_end (r : List UInt8) : rs 34 false (34 :: r) = .ok [] 1 := rs_stop (by simp only [st]; rw [if_pos trivial]; simp)
theorem rs_wes (r : List UInt8) : ∀ t : List UInt8, rs 34 false (wes t ++ 34 :: r) = .ok t ((wes t).length + 1)
  | [] => rs_end r
  | c :: t => by
    have hl := we_len c
    rw [wes_cons, List.append_assoc, rs_go (st_we c _) hl.1 (by simp), List.drop_left, rs_wes r t]
    simp [R.pre, Nat.add_assoc]
/-- The first byte of a written text is no mark. -/
theorem we_head (c : UInt8) : ∃ d r, we c = d :: r ∧ d ≠ 34 := by
  have := Qu.byte_all (p := fun c => match we c with | d :: _ => d != 34 | [] => false) (by decide +kernel) c
  revert this
  cases h : we c with
  | nil => intro h; cases h
  | cons d r => intro h; exact ⟨d, r, rfl, by simpa using h⟩
theorem rnl_wr {t r : List UInt8} (h : t ≠ [] ∨ ∀ c r', r = c :: r' → c ≠ 34) : rnl 34 (wr t ++ r) < 3 := by
  cases t with
  | nil =>
    have h : ∀ c r', r = c :: r' → c ≠ 34 := by
      rcases h with h | h
      · exact absurd rfl h
      · exact h
    show rnl 34 (34 :: 34 :: r) < 3
    cases r with
    | nil => decide
    | cons c r' =>
      have := h c r' rfl
      simp [rnl, this]
  | cons c t =>
    obtain ⟨d, r2, hd, h34⟩ := we_head c
    rw [wr, wes_cons, hd]
    simp [rnl, h34]
/-- What is written is read, whatever stands behind. -/
theorem rd_wr {t r : List UInt8} (h : t ≠ [] ∨ ∀ c r', r = c :: r' → c ≠ 34) : rd (wr t ++ r) = .ok t (wr t).length := by
  have hr := rnl_wr h
  have e : wr t ++ r = 34 :: (wes t ++ 34 :: r) := by simp [wr]
  rw [e] at hr ⊢
  simp only [rd]
  rw [if_pos (.inl trivial), if_neg (by omega), rs_wes]
  simp [R.pre, wr]; omega
end Tq
end Go.Proofs.YtpdaelcoiilkkaaDoor
