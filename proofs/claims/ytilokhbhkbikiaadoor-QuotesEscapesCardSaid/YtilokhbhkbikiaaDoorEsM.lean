/- A string's escapes at a place of it: what the next unit is (lists alone). -/
import Derived.Test.YtilokhbhkbikiaaDoorLow
namespace Go.Proofs.YtilokhbhkbikiaaDoor
open Go.RowKit

theorem tkB_drop {l : List UInt8} {q : Nat} {c : UInt8} (h : tkB l q (c.toNat : Int) = true) : l.drop q = c :: l.drop (q + 1) := by
  obtain ⟨h1, h2⟩ := of_decide_eq_true h
  obtain ⟨d, hd, hb⟩ := drop_at h1
  rw [hd]
  have : d = c := UInt8.toNat_inj.1 (by omega)
  rw [this]
theorem drop_tkB {l r : List UInt8} {q : Nat} {c : UInt8} (h : l.drop q = c :: r) : tkB l q (c.toNat : Int) = true ∧ r = l.drop (q + 1) := by
  have hq : q < l.length := by
    rcases Nat.lt_or_ge q l.length with h1 | h1
    · exact h1
    · rw [List.drop_eq_nil_of_le h1] at h; cases h
  obtain ⟨d, hd, hb⟩ := drop_at hq
  rw [h] at hd
  injection hd with e1 e2
  subst e1
  exact ⟨by simp [tkB, hq, hb], e2⟩
namespace Qu
theorem short_u : short 117 = none := by decide
theorem un_u {r : List UInt8} : un (92 :: 117 :: r) = match hx 4 0 r with | .inl j => .bad (2 + j) | .inr x => .unit 6 (.rune x.1) x.2 := by
  simp only [un, short_u]
  rw [if_neg (by decide), if_pos trivial, if_pos trivial]
  cases hx 4 0 r <;> rfl
theorem un_rune_is {l r : List UInt8} {k n : Nat} (h : un l = .unit k (.rune n) r) : ∃ r', l = 92 :: 117 :: r' ∧ hx 4 0 r' = .inr (n, r) := by
  match l with
  | [] => cases h
  | c :: s =>
    simp only [un] at h
    split at h
    · cases h
    · split at h
      · rename_i h92
        match s with
        | [] => cases h
        | d :: s' =>
          simp only at h
          cases hs : short d with
          | some b => rw [hs] at h; cases h
          | none =>
            rw [hs] at h
            simp only at h
            split at h
            · rename_i hd
              cases hh : hx 4 0 s' with
              | inl j => rw [hh] at h; cases h
              | inr x => rw [hh] at h; cases h; exact ⟨s', by rw [h92, hd], hh⟩
            · cases h
      · split at h
        · cases h
        · cases h
end Qu
theorem un_at {l : List UInt8} {q : Nat} (h1 : tkB l q 92 = true) (h2 : tkB l (q + 1) 117 = true) : Qu.un (l.drop q) = match Qu.hx 4 0 (l.drop (q + 2)) with | .inl j => .bad (2 + j) | .inr x => .unit 6 (.rune x.1) x.2 := by
  rw [tkB_drop (c := 92) h1, tkB_drop (c := 117) h2, Qu.un_u]
theorem hx4_drop {l r : List UInt8} {p n : Nat} (h : Qu.hx 4 0 (l.drop p) = .inr (n, r)) : r = l.drop (p + 4) := by
  obtain ⟨u, hu, hk, _⟩ := Qu.hx_head 4 0 _ h
  have : (l.drop p).drop 4 = r := by rw [hu, ← hk]; simp
  rw [← this, List.drop_drop]
theorem lowQ_some {l : List UInt8} {p m : Nat} (h : lowQ l p = some m) : Qu.low m = true ∧ Qu.un (l.drop p) = .unit 6 (.rune m) (l.drop (p + 6)) := by
  unfold lowQ at h
  split at h
  · rename_i hh
    obtain ⟨h1, h2⟩ := hh
    cases hx : Qu.hx 4 0 (l.drop (p + 2)) with
    | inl j => rw [hx] at h; cases h
    | inr x =>
      rw [hx] at h
      simp only at h
      split at h
      · rename_i hl
        cases h
        refine ⟨hl, ?_⟩
        rw [un_at h1 h2, hx]
        obtain ⟨n, r⟩ := x
        rw [hx4_drop hx]
      · cases h
  · cases h
theorem lowQ_none {l : List UInt8} {p : Nat} (h : lowQ l p = none) : ∀ k m r, Qu.un (l.drop p) = .unit k (.rune m) r → Qu.low m = false := by
  intro k m r hu
  obtain ⟨r', hl, hx⟩ := Qu.un_rune_is hu
  obtain ⟨h1, e1⟩ := drop_tkB hl
  obtain ⟨h2, e2⟩ := drop_tkB (l := l) (q := p + 1) e1.symm
  rw [lowQ, if_pos ⟨h1, h2⟩, show p + 2 = p + 1 + 1 from rfl, ← e2, hx] at h
  simp only at h
  cases hm : Qu.low m with
  | false => rfl
  | true => rw [hm] at h; cases h
section
variable {l : List UInt8} {q : Nat}
theorem tok_esc_bad (h1 : tkB l q 92 = true) (h2 : tkB l (q + 1) 117 = true) {j : Nat} (h : Qu.hx 4 0 (l.drop (q + 2)) = .inl j) : Qu.tok (l.drop q) = .stop (.bad false (2 + j)) := by
  rw [Qu.tok, un_at h1 h2, h]
theorem tok_esc_low (h1 : tkB l q 92 = true) (h2 : tkB l (q + 1) 117 = true) {n : Nat} {r : List UInt8} (h : Qu.hx 4 0 (l.drop (q + 2)) = .inr (n, r)) (hh : Qu.high n = false) (hl : Qu.low n = true) : Qu.tok (l.drop q) = .stop (.bad true 0) := by
  rw [Qu.tok, un_at h1 h2, h]; simp [hh, hl]
theorem tok_esc_one (h1 : tkB l q 92 = true) (h2 : tkB l (q + 1) 117 = true) {n : Nat} {r : List UInt8} (h : Qu.hx 4 0 (l.drop (q + 2)) = .inr (n, r)) (hh : Qu.high n = false) (hl : Qu.low n = false) : Qu.tok (l.drop q) = .go 6 (Qu.pt n) (l.drop (q + 6)) := by
  have := hx4_drop h
  subst this
  rw [Qu.tok, un_at h1 h2, h]; simp [hh, hl]
theorem tok_esc_half (h1 : tkB l q 92 = true) (h2 : tkB l (q + 1) 117 = true) {n : Nat} {r : List UInt8} (h : Qu.hx 4 0 (l.drop (q + 2)) = .inr (n, r)) (hh : Qu.high n = true) (hl : lowQ l (q + 6) = none) : Qu.tok (l.drop q) = .stop (.bad true 0) := by
  have := hx4_drop h
  subst this
  rw [Qu.tok, un_at h1 h2, h]
  simp only [hh, if_true]
  split
  · rename_i k m r' e
    rw [lowQ_none hl k m r' e]; rfl
  · rfl
theorem tok_esc_pair (h1 : tkB l q 92 = true) (h2 : tkB l (q + 1) 117 = true) {n m : Nat} {r : List UInt8} (h : Qu.hx 4 0 (l.drop (q + 2)) = .inr (n, r)) (hh : Qu.high n = true) (hl : lowQ l (q + 6) = some m) : Qu.tok (l.drop q) = .go 12 (Qu.pt (Qu.pair n m)) (l.drop (q + 12)) := by
  have := hx4_drop h
  subst this
  obtain ⟨e1, e2⟩ := lowQ_some hl
  rw [Qu.tok, un_at h1 h2, h]
  simp only [hh, if_true]
  rw [e2]
  simp only [e1, if_true]
end
/-- A rune's bytes are the program's. -/
theorem puts_one {n : Nat} (h : n ≤ 1114111) (h1 : Qu.high n = false) (h2 : Qu.low n = false) : puts [(n : Int)] = Qu.pt n := by
  have hk : knw (n : Int) = n := by
    have a1 : ¬ (55296 ≤ n ∧ n ≤ 56319) := by simpa [Qu.high] using h1
    have a2 : ¬ (56320 ≤ n ∧ n ≤ 57343) := by simpa [Qu.low] using h2
    rw [knw, if_pos (by omega)]
  have e : putI [(n : Int)] = encI n := by
    show putTo [(n : Int)] 1 = _
    simp [putTo, it, hk]
  rw [puts, e]
  unfold encI Qu.pt
  by_cases c1 : n < 128
  · rw [if_pos (by omega), if_pos c1]; simp [b8]
  rw [if_neg (by omega), if_neg c1]
  by_cases c2 : n < 2048
  · rw [if_pos (by omega), if_pos c2]
    simp only [List.map_cons, List.map_nil, b8]
    rw [show (192 + (n : Int) / 64).toNat = 192 + n / 64 by omega, show (128 + (n : Int) % 64).toNat = 128 + n % 64 by omega]
  rw [if_neg (by omega), if_neg c2]
  by_cases c3 : n < 65536
  · rw [if_pos (by omega), if_pos c3]
    simp only [List.map_cons, List.map_nil, b8]
    rw [show (224 + (n : Int) / 4096).toNat = 224 + n / 4096 by omega, show (128 + (n : Int) / 64 % 64).toNat = 128 + n / 64 % 64 by omega, show (128 + (n : Int) % 64).toNat = 128 + n % 64 by omega]
  rw [if_neg (by omega), if_neg c3]
  simp only [List.map_cons, List.map_nil, b8]
  rw [show (240 + (n : Int) / 262144).toNat = 240 + n / 262144 by omega, show (128 + (n : Int) / 4096 % 64).toNat = 128 + n / 4096 % 64 by omega, show (128 + (n : Int) / 64 % 64).toNat = 128 + n / 64 % 64 by omega, show (128 + (n : Int) % 64).toNat = 128 + n % 64 by omega]
theorem pt_len (n : Nat) : (Qu.pt n).length ≤ 4 := by unfold Qu.pt; repeat' split
                                                      all_goals simp
end Go.Proofs.YtilokhbhkbikiaaDoor
