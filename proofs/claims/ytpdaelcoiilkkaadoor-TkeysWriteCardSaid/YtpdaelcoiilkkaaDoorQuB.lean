/- Strings of JSON: what is written is read; nothing shorter is; with more behind it is wrong (lists alone). -/
import Derived.Test.YtpdaelcoiilkkaaDoorQuL
namespace Go.Proofs.YtpdaelcoiilkkaaDoor

namespace Qu
def goesTo (t : Tok) (k : Nat) (s : List UInt8) : Bool := match t with | .go k' s' [] => k' == k && s' == s | _ => false
theorem goesTo_go {t : Tok} {k : Nat} {s : List UInt8} (h : goesTo t k s = true) : t = .go k s [] := by
  unfold goesTo at h
  split at h
  · simp only [Bool.and_eq_true, beq_iff_eq] at h
    rw [h.1, h.2]
  · cases h
theorem byte_all {p : UInt8 → Bool} (h : (List.range 256).all (fun n => p (UInt8.ofNat n)) = true) (c : UInt8) : p c = true := by
  have := (List.all_eq_true.1 h) c.toNat (List.mem_range.2 c.toNat_lt)
  simpa using this
/-- A written byte is read. -/
theorem tok_esc (c : UInt8) (r : List UInt8) : tok (esc c ++ r) = .go (esc c).length [c] r := by
  have h := goesTo_go (byte_all (p := fun c => goesTo (tok (esc c)) (esc c).length [c]) (by decide +kernel) c)
  obtain ⟨p, hp, _, ha⟩ := tok_head h
  rw [List.append_nil] at hp
  rw [hp]
  rw [hp] at ha
  simpa [hp] using ha r
theorem escs_cons (c : UInt8) (t : List UInt8) : escs (c :: t) = esc c ++ escs t := rfl
theorem escs_app (s t : List UInt8) : escs (s ++ t) = escs s ++ escs t := by simp [escs]
theorem body_end : body [34] = .ok [] := body_stop (by rfl)
theorem body_escs : ∀ t : List UInt8, body (escs t ++ [34]) = .ok t
  | [] => body_end
  | c :: t => by
    rw [escs_cons, List.append_assoc, body_go (tok_esc c _), body_escs t]; rfl
theorem rdq_cons (r : List UInt8) : rdq (34 :: r) = (body r).pre 1 [] := rfl
theorem rdq_wrq (t : List UInt8) : rdq (wrq t) = .ok t := by rw [wrq, rdq_cons, body_escs]; rfl
theorem wrq_inj {a b : List UInt8} (h : wrq a = wrq b) : a = b := by
  have := rdq_wrq a
  rw [h, rdq_wrq] at this
  injection this with h; exact h.symm
theorem wrq_len (t : List UInt8) : (wrq t).length = (escs t).length + 2 := by simp [wrq]
theorem wrq_app (a b : List UInt8) : wrq (a ++ b) = (wrq a).take ((wrq a).length - 1) ++ (wrq b).drop 1 := by
  rw [wrq_len]
  simp [wrq, escs_app]
/-! ### Nothing shorter -/
theorem dig_lt {c : UInt8} {d : Nat} (h : dig c = some d) : d < 16 := by
  unfold dig at h
  split at h
  · cases h; omega
  · split at h
    · cases h; omega
    · split at h
      · cases h; omega
      · cases h
theorem hx_lt : ∀ (k n : Nat) (l : List UInt8) {x : Nat × List UInt8}, hx k n l = .inr x → x.1 < (n + 1) * 16 ^ k
  | 0, n, r, x, h => by simp [hx] at h; subst h; simp
  | k + 1, n, [], x, h => by simp [hx] at h
  | k + 1, n, c :: r, x, h => by
    simp only [hx] at h
    cases hd : dig c with
    | none => rw [hd] at h; cases h
    | some d =>
      rw [hd] at h
      simp only at h
      cases hh : hx k (16 * n + d) r with
      | inl j => rw [hh] at h; cases h
      | inr y =>
        rw [hh] at h
        cases h
        have h1 := hx_lt k _ r hh
        have h2 := dig_lt hd
        have h3 : (16 * n + d + 1) * 16 ^ k ≤ ((n + 1) * 16) * 16 ^ k := Nat.mul_le_mul_right _ (by omega)
        rw [Nat.pow_succ, Nat.mul_comm (16 ^ k) 16, ← Nat.mul_assoc]
        omega
/-- What a unit is. -/
theorem un_rune {l r : List UInt8} {k n : Nat} (h : un l = .unit k (.rune n) r) : k = 6 ∧ n < 65536 := by
  unfold un at h
  repeat' split at h
  all_goals first
    | cases h
    | skip
  rename_i x hh
  have := hx_lt _ _ _ hh
  exact ⟨rfl, by simpa using this⟩
theorem short_esc {d b : UInt8} (h : short d = some b) : (esc b).length ≤ 2 := by
  have := byte_all (p := fun d => match short d with | some b => decide ((esc b).length ≤ 2) | none => true) (by decide +kernel) d
  simpa [h] using this
theorem esc_one {c : UInt8} (h1 : c ≠ 34) (h2 : c ≠ 92) (h3 : ¬ c.toNat < 32) : esc c = [c] := by
  have := byte_all (p := fun c => c == 34 || c == 92 || decide (c.toNat < 32) || esc c == [c]) (by decide +kernel) c
  simpa [h1, h2, h3] using this
theorem un_byte {l r : List UInt8} {k : Nat} {b : UInt8} (h : un l = .unit k (.byte b) r) : (esc b).length ≤ k := by
  unfold un at h
  repeat' split at h
  all_goals first
    | (cases h; done)
    | skip
  · rename_i hs; cases h; exact short_esc hs
  · rename_i h1 h2 h3; cases h; rw [esc_one h1 h2 h3]; simp
theorem esc_len6 (c : UInt8) : (esc c).length ≤ 6 := by
  have := byte_all (p := fun c => decide ((esc c).length ≤ 6)) (by decide +kernel) c
  simpa using this
theorem esc_high {n : Nat} (h1 : 128 ≤ n) (h2 : n < 256) : (esc (UInt8.ofNat n)).length = 1 := by
  have e : (UInt8.ofNat n).toNat = n := by simp; omega
  rw [esc_one]
  · rfl
  · intro h; rw [h] at e; simp at e; omega
  · intro h; rw [h] at e; simp at e; omega
  · omega
theorem escs_pt {n : Nat} (h : n < 65536) : (escs (pt n)).length ≤ 6 := by
  unfold pt
  split
  · have := esc_len6 (UInt8.ofNat n); simpa [escs] using this
  · split
    · have h1 := esc_high (n := 192 + n / 64) (by omega) (by omega)
      have h2 := esc_high (n := 128 + n % 64) (by omega) (by omega)
      simp only [escs, List.flatMap_cons, List.flatMap_nil, List.length_append, List.length_nil]; omega
    · have h1 := esc_high (n := 224 + n / 4096) (by omega) (by omega)
      have h2 := esc_high (n := 128 + n / 64 % 64) (by omega) (by omega)
      have h3 := esc_high (n := 128 + n % 64) (by omega) (by omega)
      simp only [escs, List.flatMap_cons, List.flatMap_nil, List.length_append, List.length_nil]; omega
theorem high_is {n : Nat} (h : high n = true) : 55296 ≤ n ∧ n ≤ 56319 := by simpa [high] using h
theorem low_is {n : Nat} (h : low n = true) : 56320 ≤ n ∧ n ≤ 57343 := by simpa [low] using h
theorem pair_bd {n m : Nat} (h1 : high n = true) (h2 : low m = true) : 65536 ≤ pair n m ∧ pair n m ≤ 1114111 := by
  have := high_is h1; have := low_is h2
  unfold pair; omega
theorem pt_big {n : Nat} (h1 : 65536 ≤ n) (h2 : n ≤ 1114111) : (escs (pt n)).length = 4 := by
  unfold pt
  rw [if_neg (by omega), if_neg (by omega), if_neg (by omega)]
  have h1 := esc_high (n := 240 + n / 262144) (by omega) (by omega)
  have h2 := esc_high (n := 128 + n / 4096 % 64) (by omega) (by omega)
  have h3 := esc_high (n := 128 + n / 64 % 64) (by omega) (by omega)
  have h4 := esc_high (n := 128 + n % 64) (by omega) (by omega)
  simp only [escs, List.flatMap_cons, List.flatMap_nil, List.length_append, List.length_nil]; omega
theorem tok_short {l r t : List UInt8} {k : Nat} (h : tok l = .go k t r) : (escs t).length ≤ k := by
  rcases tok_go_is h with ⟨b, hb, rfl⟩ | ⟨n, hn, _, _, rfl⟩ | ⟨n, k1, k2, r1, m, e1, h1, e2, h2, ek, et⟩
  · have := un_byte hb; simpa [escs] using this
  · obtain ⟨hk, hn⟩ := un_rune hn; have := escs_pt hn; omega
  · have := un_rune e1; have := un_rune e2
    obtain ⟨p1, p2⟩ := pair_bd h1 h2
    have := pt_big p1 p2
    subst et; omega
theorem body_short : ∀ (N : Nat) {l t : List UInt8}, l.length ≤ N → body l = .ok t → (escs t).length + 1 ≤ l.length
  | 0, l, t, hN, h => by
    obtain rfl := List.eq_nil_of_length_eq_zero (Nat.le_zero.1 hN)
    rw [body_nil] at h; cases h
  | N + 1, l, t, hN, h => by
    rcases body_ok h with ⟨rfl, rfl⟩ | ⟨k, s, r, y, ht, hy, rfl⟩
    · simp [escs]
    · have h1 := tok_go ht
      have h2 := tok_short ht
      have h3 := body_short N (by omega) hy
      rw [escs_app, List.length_append]; omega
/-- Nothing shorter than what is written is read so. -/
theorem rdq_ok {l t : List UInt8} (h : rdq l = .ok t) : ∃ r, l = 34 :: r ∧ body r = .ok t := by
  unfold rdq at h
  split at h
  · obtain ⟨y, hy, e⟩ := pre_ok h
    exact ⟨_, rfl, by simpa [e] using hy⟩
  · cases h
theorem rdq_short {l t : List UInt8} (h : rdq l = .ok t) : (wrq t).length ≤ l.length := by
  obtain ⟨r, rfl, hr⟩ := rdq_ok h
  have := body_short r.length (Nat.le_refl _) hr
  rw [wrq_len]; simp; omega
/-! ### Cut, and with more behind -/
theorem rdq_cut {s t : List UInt8} (h : rdq s = .ok t) {i : Nat} (hi : i < s.length) : Cut (rdq (s.take i)) i := by
  obtain ⟨r, rfl, hr⟩ := rdq_ok h
  cases i with
  | zero => exact .inl rfl
  | succ i =>
    rw [List.take_succ_cons, rdq_cons]
    have := (body_cut r.length (Nat.le_refl _) hr i (by simpa using hi)).pre (k := 1) (t := [])
    rwa [Nat.add_comm] at this
theorem body_behind : ∀ (N : Nat) {l t m : List UInt8}, l.length ≤ N → body l = .ok t → m ≠ [] → body (l ++ m) = .bad false l.length
  | 0, l, t, m, hN, h, hm => by
    obtain rfl := List.eq_nil_of_length_eq_zero (Nat.le_zero.1 hN)
    rw [body_nil] at h; cases h
  | N + 1, l, t, m, hN, h, hm => by
    rcases body_ok h with ⟨rfl, rfl⟩ | ⟨k, s, r, y, ht, hy, rfl⟩
    · obtain ⟨c, m, rfl⟩ := List.exists_cons_of_ne_nil hm
      exact body_stop (by rfl)
    · have h1 := tok_go ht
      obtain ⟨p, hp, hk, ha⟩ := tok_head ht
      rw [hp, List.append_assoc, body_on ha, body_behind N (by omega) hy hm]
      simp [Res.pre, hk]
theorem rdq_behind {s t m : List UInt8} (h : rdq s = .ok t) (hm : m ≠ []) : rdq (s ++ m) = .bad false s.length := by
  obtain ⟨r, rfl, hr⟩ := rdq_ok h
  rw [List.cons_append, rdq_cons, body_behind r.length (Nat.le_refl _) hr hm]
  simp [Res.pre, Nat.add_comm]
theorem tok_more {l : List UInt8} {hf : Bool} {a : Nat} (h : tok l = .stop (.bad hf a)) : a ≤ l.length ∧ ∀ m, a + 12 < l.length → tok (l ++ m) = .stop (.bad hf a) := by
  unfold tok at h
  cases hu : un l with
  | bad k =>
    rw [hu] at h
    cases h
    obtain ⟨h1, h2⟩ := un_bad hu
    refine ⟨h1, fun m hl => ?_⟩
    have := un_more (m := m) (l := l) (fun k e => by rw [hu] at e; cases e; omega)
    rw [tok, this, hu]; rfl
  | done x =>
    rw [hu] at h
    match x, h with
    | y :: x, h =>
      cases h
      have hl : 1 ≤ l.length := by
        match l, hu with
        | c :: s, _ => simp
      refine ⟨hl, fun m _ => ?_⟩
      have := un_more (m := m) (l := l) (fun k e => by rw [hu] at e; cases e)
      rw [tok, this, hu]; rfl
  | unit k u r =>
    rw [hu] at h
    have hlen := un_unit hu
    have hm1 := fun m => un_more (m := m) (l := l) (fun k e => by rw [hu] at e; cases e)
    cases u with
    | byte b => cases h
    | rune n =>
      have hk := (un_rune hu).1
      simp only at h
      cases hn : high n with
      | true =>
        rw [hn, if_pos rfl] at h
        have e : hf = true ∧ a = 0 := by
          split at h
          · split at h
            · cases h
            · cases h; exact ⟨rfl, rfl⟩
          · cases h; exact ⟨rfl, rfl⟩
        obtain ⟨rfl, rfl⟩ := e
        refine ⟨Nat.zero_le _, fun m hl => ?_⟩
        have hm2 := un_more (m := m) (l := r) (fun k e => by have := un_bad e; omega)
        rw [tok, hm1 m, hu]
        simp only [Step.more, hn, if_true]
        rw [hm2]
        cases hu2 : un r with
        | bad _ => rfl
        | done _ => rfl
        | unit k2 u2 r2 =>
          rw [hu2] at h
          cases u2 with
          | byte _ => rfl
          | rune m' =>
            simp only at h
            cases hl : low m' with
            | true => rw [hl] at h; cases h
            | false => simp [Step.more, hl]
      | false =>
        rw [hn] at h
        cases hl : low n with
        | true =>
          rw [hl] at h; cases h
          refine ⟨Nat.zero_le _, fun m _ => ?_⟩
          rw [tok, hm1 m, hu]
          simp [Step.more, hn, hl]
        | false => rw [hl] at h; cases h
theorem pre_bad {x : Res} {k a : Nat} {s : List UInt8} {h : Bool} (e : x.pre k s = .bad h a) : ∃ b, x = .bad h b ∧ a = k + b := by
  cases x with
  | ok y => cases e
  | bad _ b => cases e; exact ⟨b, rfl, rfl⟩
theorem body_more : ∀ (N : Nat) {l : List UInt8} {hf : Bool} {a : Nat}, l.length ≤ N → body l = .bad hf a → a ≤ l.length ∧ ∀ m, a + 12 < l.length → body (l ++ m) = .bad hf a := fun N => by
  induction N with
  | zero =>
    intro l hf a hN h
    obtain rfl := List.eq_nil_of_length_eq_zero (Nat.le_zero.1 hN)
    rw [body_nil] at h; cases h
    exact ⟨Nat.le_refl _, fun m hl => by simp at hl⟩
  | succ N ih =>
    intro l hf a hN h
    cases ht : tok l with
    | stop x =>
      rw [body_stop ht] at h
      subst h
      obtain ⟨h1, h2⟩ := tok_more ht
      exact ⟨h1, fun m hl => body_stop (h2 m hl)⟩
    | go k s r =>
      rw [body_go ht] at h
      obtain ⟨b, hb, rfl⟩ := pre_bad h
      have h1 := tok_go ht
      obtain ⟨i1, i2⟩ := ih (by omega) hb
      obtain ⟨p, hp, hk, ha⟩ := tok_head ht
      refine ⟨by omega, fun m hl => ?_⟩
      rw [hp, List.append_assoc, body_on ha, i2 m (by omega)]; rfl
theorem rdq_more {s : List UInt8} {hf : Bool} {a : Nat} (h : rdq s = .bad hf a) : a ≤ s.length ∧ ∀ m, a + 12 < s.length → rdq (s ++ m) = .bad hf a := by
  by_cases hs : ∃ r, s = 34 :: r
  · obtain ⟨r, rfl⟩ := hs
    rw [rdq_cons] at h
    obtain ⟨b, hb, rfl⟩ := pre_bad h
    obtain ⟨h1, h2⟩ := body_more r.length (Nat.le_refl _) hb
    refine ⟨by simp; omega, fun m hl => ?_⟩
    rw [List.cons_append, rdq_cons, h2 m (by simp at hl; omega)]; rfl
  · have e : ∀ s : List UInt8, (¬ ∃ r, s = 34 :: r) → rdq s = .bad false 0 := fun s hs => by
      unfold rdq
      split
      · exact absurd ⟨_, rfl⟩ hs
      · rfl
    rw [e s hs] at h
    cases h
    refine ⟨Nat.zero_le _, fun m hl => e _ ?_⟩
    rintro ⟨r, hr⟩
    match s, hl, hs, hr with
    | c :: s, _, hs, hr => exact hs ⟨s, by simp only [List.cons_append, List.cons.injEq] at hr; rw [hr.1]⟩
end Qu
end Go.Proofs.YtpdaelcoiilkkaaDoor
