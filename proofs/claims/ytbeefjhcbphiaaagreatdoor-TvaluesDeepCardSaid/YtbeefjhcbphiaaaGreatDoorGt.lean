/- Texts of tables and of dotted keys, too deep; dotted keys as deep as may be. -/
import Derived.Test.YtbeefjhcbphiaaaGreatDoorGs
import Derived.Test.YtbeefjhcbphiaaaGreatDoorShelfm
import Derived.Test.YtbeefjhcbphiaaaGreatDoorGp
namespace Go.Proofs.YtbeefjhcbphiaaaGreatDoor
open Go.RowKit
namespace Tv
open Ty (WR1 KR Ky Bs blK plK nxt krun endP endP_on endP_no endP_far)

theorem open_len (s : St) : s.open_.X.length = s.X.length + 1 := by simp [St.open_]
theorem hang_names {s : St} {t n : Nat} {w : Bs} {sp : Nat × Nat} (h : ∀ x ∈ s.m, x.1.1 < n) (ht : t < n) : ∀ x ∈ (s.hang t w sp).m, x.1.1 < n := by
  intro x hx
  have hx : x = ((t, w), s.X.length) ∨ x ∈ s.m := by simpa [St.hang] using hx
  rcases hx with rfl | hx
  · exact ht
  · exact h x hx
theorem tables_bad {l : Bs} : ∀ (j f : Nat) (s : St) (ar : Nat), (∀ i, i ≤ j → bt l (s.a + 3 * i) = 123) → (∀ i, i < j → bt l (s.a + 3 * i + 1) = 97 ∧ bt l (s.a + 3 * i + 2) = 61) →
    (∀ x ∈ s.m, x.1.1 < s.X.length) → 2 * j < f → (ar + j = 256 ∨ j = 0 ∧ 256 ≤ ar) → val (envF l) f s ar = .bad 4 (s.a + 3 * j)
  | _, 0, _, _, _, _, _, hf, _ => absurd hf (by omega)
  | 0, f + 1, s, ar, h0, _, _, _, ha => by
    have b0 : bt l s.a = 123 := h0 0 (by omega)
    rw [val, envF_l, if_neg (show ¬ (bt l s.a = 34 ∨ bt l s.a = 39) by omega), if_neg (show ¬ bt l s.a = 91 by omega), if_pos b0, if_pos (by omega)]; rfl
  | j + 1, 1, _, _, _, _, _, hf, _ => absurd hf (by omega)
  | j + 1, f + 2, s, ar, h0, h1, hm, hf, ha => by
    have b0 : bt l s.a = 123 := h0 0 (by omega)
    obtain ⟨b1, b2⟩ := h1 0 (by omega)
    have b1 : bt l (s.a + 1) = 97 := b1
    have b2 : bt l (s.a + 2) = 61 := b2
    have b3 : bt l (s.a + 3) = 123 := h0 1 (by omega)
    have k1 : endP blK l (s.a + 1) = s.a + 1 := blk_self (by omega) (by omega)
    have k2 : endP blK l (s.a + 1 + 1) = s.a + 2 := blk_self (by rw [show s.a + 1 + 1 = s.a + 2 from rfl]; omega) (by rw [show s.a + 1 + 1 = s.a + 2 from rfl]; omega)
    have k3 : endP blK l (s.a + 2 + 1) = s.a + 3 := blk_self (by rw [show s.a + 2 + 1 = s.a + 3 from rfl]; omega) (by rw [show s.a + 2 + 1 = s.a + 3 from rfl]; omega)
    obtain ⟨s0, e0⟩ : ∃ s0, s0 = s.push (Nd.leaf 8 [] (s.a, ((s.a + 1 : Nat) : Int))) (s.a + 1) := ⟨_, rfl⟩
    obtain ⟨s1, e1⟩ : ∃ s1, s1 = ({ s0 with a := s.a + 1 } : St).hang s.X.length [97] (s.a + 1, s.a + 1 + 1) := ⟨_, rfl⟩
    have hl0 : s0.X.length = s.X.length + 1 := by rw [e0, push_len]
    have hl1 : s1.X.length = s.X.length + 1 := by rw [e1, hang_len]; exact hl0
    have hm1 : ∀ x ∈ s1.m, x.1.1 < s1.X.length := by
      rw [hl1, e1]
      exact hang_names (fun x hx => by rw [e0] at hx; have := hm x hx; omega) (by omega)
    have ld : lead [([97], (s.a + 1, s.a + 1 + 1))] s.X.length (ar + 1) { s0 with a := s.a + 1 } = .ok s1 := by
      have hn : lk ({ s0 with a := s.a + 1 } : St).m (s.X.length, [97]) = none := lk_new (by rw [e0]; exact hm)
      rw [lead]; simp only [hn]; rw [e1]
    have ih := tables_bad j f { s1 with a := s.a + 3 } (ar + 1) (fun i hi => by show bt l (s.a + 3 + 3 * i) = 123; rw [show s.a + 3 + 3 * i = s.a + 3 * (i + 1) by omega]; exact h0 _ (by omega))
      (fun i hi => by show bt l (s.a + 3 + 3 * i + 1) = 97 ∧ bt l (s.a + 3 + 3 * i + 2) = 61; rw [show s.a + 3 + 3 * i = s.a + 3 * (i + 1) by omega]; exact h1 _ (by omega)) hm1 (by omega) (by omega)
    rw [val, envF_l, if_neg (show ¬ (bt l s.a = 34 ∨ bt l s.a = 39) by omega), if_neg (show ¬ bt l s.a = 91 by omega), if_pos b0, if_neg (by omega), k1, if_neg (show ¬ bt l (s.a + 1) = 125 by omega), ← e0, pairs, envF_l]
    have ea : s0.a = s.a + 1 := by rw [e0]; rfl
    rw [ea, k1, key_a b1 b2]
    simp only [ld]
    rw [k2, if_pos b2, k3]
    show (match val (envF l) f { s1 with a := s.a + 3 } (ar + 1) with | .bad c a => _ | .out => _ | .ok s2 => _) = _
    rw [ih]
    show Rs.bad 4 (s.a + 3 + 3 * j) = _
    rw [show s.a + 3 + 3 * j = s.a + 3 * (j + 1) by omega]
theorem kyA_len : ∀ (r q : Nat), (kyA q r).length = r + 1
  | 0, _ => rfl
  | r + 1, q => by rw [kyA, List.length_cons, kyA_len r]
theorem kyA_cons (r q : Nat) : ∃ x k, kyA q r = x :: k := by cases r <;> exact ⟨_, _, rfl⟩
theorem lead_ok : ∀ (r q t ar : Nat) (s : St), (∀ x ∈ s.m, x.1.1 < t) → t < s.X.length → ar + r ≤ 256 → ∃ s', lead (kyA q r) t ar s = .ok s' ∧ s'.a = s.a ∧ s'.X.length = s.X.length + r
  | 0, q, t, ar, s, hm, _, _ => by
    refine ⟨s.hang t [97] (q, q + 1), ?_, rfl, hang_len ..⟩
    rw [kyA, lead]; simp only [lk_new hm]
  | r + 1, q, t, ar, s, hm, ht, ha => by
    obtain ⟨s', e, ea, el⟩ := lead_ok r (q + 2) s.X.length (ar + 1) (s.hang t [97] (q, q + 1)).open_ (hang_names (s := s) (sp := (q, q + 1)) (fun x hx => by have := hm x hx; omega) ht) (by rw [open_len, hang_len]; omega) (by omega)
    refine ⟨s', ?_, ea, by rw [el, open_len, hang_len]; omega⟩
    obtain ⟨x, k, ek⟩ := kyA_cons r (q + 2)
    rw [kyA, ek, lead]
    simp only [lk_new hm]
    rw [if_neg (by omega), ← ek, e]
theorem lead_bad : ∀ (i r q t ar : Nat) (s : St), i < r → (∀ x ∈ s.m, x.1.1 < t) → t < s.X.length → ar + i = 256 → lead (kyA q r) t ar s = .bad 4 (q + 2 * i)
  | _, 0, _, _, _, _, hi, _, _, _ => absurd hi (by omega)
  | 0, r + 1, q, t, ar, s, _, hm, _, ha => by
    obtain ⟨x, k, ek⟩ := kyA_cons r (q + 2)
    rw [kyA, ek, lead]
    simp only [lk_new hm]
    rw [if_pos (by omega)]; rfl
  | i + 1, r + 1, q, t, ar, s, hi, hm, ht, ha => by
    have e := lead_bad i r (q + 2) s.X.length (ar + 1) (s.hang t [97] (q, q + 1)).open_ (by omega) (hang_names (s := s) (sp := (q, q + 1)) (fun x hx => by have := hm x hx; omega) ht) (by rw [open_len, hang_len]; omega) (by omega)
    obtain ⟨x, k, ek⟩ := kyA_cons r (q + 2)
    rw [kyA, ek, lead]
    simp only [lk_new hm]
    rw [if_neg (by omega), ← ek, e, show q + 2 + 2 * i = q + 2 * (i + 1) by omega]
theorem words_ok {l : Bs} (r f ar : Nat) (h0 : bt l 0 = 123) (h1 : ∀ t, t ≤ r → bt l (1 + 2 * t) = 97) (h2 : ∀ t, t < r → bt l (1 + 2 * t + 1) = 46) (h3 : bt l (2 * r + 2) = 61) (h4 : bt l (2 * r + 3) = 49) (h5 : bt l (2 * r + 4) = 125) (hr : r ≤ l.length) (hf : 2 < f) (ha : ar + r + 1 ≤ 256) :
    ∃ s', val (envF l) f ⟨0, [], []⟩ ar = .ok s' ∧ s'.a = 2 * r + 5 ∧ s'.X.length = r + 2 := by
  obtain ⟨g, rfl⟩ : ∃ g, f = g + 2 := ⟨f - 2, by omega⟩
  have b1 : bt l 1 = 97 := h1 0 (by omega)
  have k1 : endP blK l 1 = 1 := blk_self (by omega) (by omega)
  have kd : (envF l).kd 1 = .ok (kyA 1 r) (2 * r + 2) := by
    have := krun_as r (l.length + 1) 1 [] h1 h2 (by rw [show 1 + 2 * r + 1 = 2 * r + 2 by omega]; exact h3) (by omega)
    rw [show 1 + 2 * r + 1 = 2 * r + 2 by omega] at this
    exact this
  obtain ⟨s0, e0⟩ : ∃ s0, s0 = (⟨0, [], []⟩ : St).push (Nd.leaf 8 [] (0, 1)) 1 := ⟨_, rfl⟩
  obtain ⟨s1, ld, la, ll⟩ := lead_ok r 1 0 (ar + 1) { s0 with a := 1 } (by rw [e0]; intro x hx; cases hx) (by rw [e0]; exact Nat.zero_lt_one) (by omega)
  have ll : s1.X.length = 1 + r := by rw [ll, e0]; rfl
  obtain ⟨s2, v2, a2, l2⟩ := lists_ok (l := l) 0 g { s1 with a := 2 * r + 3 } (ar + (r + 1)) (fun i hi => absurd hi (by omega)) h4 (.inr h5) (fun i hi => absurd hi (by omega)) (by omega) (by omega)
  have a2 : s2.a = 2 * r + 4 := a2
  have l2 : s2.X.length = s1.X.length + 0 + 1 := l2
  have k2 : endP blK l (2 * r + 2) = 2 * r + 2 := blk_self (by omega) (by omega)
  have k3 : endP blK l (2 * r + 2 + 1) = 2 * r + 3 := blk_self (by rw [show 2 * r + 2 + 1 = 2 * r + 3 by omega]; omega) (by rw [show 2 * r + 2 + 1 = 2 * r + 3 by omega]; omega)
  have k4 : endP blK l s2.a = s2.a := by rw [a2]; exact blk_self (by omega) (by omega)
  have c2 : bt l s2.a = 125 := by rw [a2]; exact h5
  refine ⟨St.close { s2 with a := s2.a } 0, ?_, ?_, ?_⟩
  · rw [val, envF_l]
    show (if bt l 0 = 34 ∨ bt l 0 = 39 then _ else if bt l 0 = 91 then _ else if bt l 0 = 123 then (if 256 ≤ ar then _ else if bt l (endP blK l 1) = 125 then _ else pairs (envF l) (g + 1) 0 ((⟨0, [], []⟩ : St).push (Nd.leaf 8 [] (0, 1)) (endP blK l 1)) ar) else _) = _
    rw [if_neg (by omega), if_neg (by omega), if_pos h0, if_neg (by omega), k1, if_neg (by omega), ← e0, pairs, envF_l]
    have ea : s0.a = 1 := by rw [e0]; rfl
    rw [ea, k1, kd]
    simp only [ld]
    rw [k2, if_pos h3, k3, kyA_len]
    show (match val (envF l) g { s1 with a := 2 * r + 3 } (ar + (r + 1)) with | .bad c a => _ | .out => _ | .ok s2 => _) = _
    rw [v2]
    simp only [k4]
    rw [if_neg (show ¬ bt l s2.a = 44 by omega), if_pos c2]
  · show s2.a + 1 = _; omega
  · rw [close_len]; show s2.X.length = _; omega
theorem words_bad {l : Bs} (r f ar : Nat) (h0 : bt l 0 = 123) (h1 : ∀ t, t ≤ r → bt l (1 + 2 * t) = 97) (h2 : ∀ t, t < r → bt l (1 + 2 * t + 1) = 46) (h3 : bt l (2 * r + 2) = 61) (hr : r ≤ l.length) (hf : 2 < f) (ha : 256 < ar + r + 1) :
    val (envF l) f ⟨0, [], []⟩ ar = .bad 4 (2 * (256 - ar) - 1) := by
  obtain ⟨g, rfl⟩ : ∃ g, f = g + 2 := ⟨f - 2, by omega⟩
  have b1 : bt l 1 = 97 := h1 0 (by omega)
  have k1 : endP blK l 1 = 1 := blk_self (by omega) (by omega)
  have kd : (envF l).kd 1 = .ok (kyA 1 r) (2 * r + 2) := by
    have := krun_as r (l.length + 1) 1 [] h1 h2 (by rw [show 1 + 2 * r + 1 = 2 * r + 2 by omega]; exact h3) (by omega)
    rw [show 1 + 2 * r + 1 = 2 * r + 2 by omega] at this
    exact this
  obtain ⟨s0, e0⟩ : ∃ s0, s0 = (⟨0, [], []⟩ : St).push (Nd.leaf 8 [] (0, 1)) 1 := ⟨_, rfl⟩
  rw [val, envF_l]
  show (if bt l 0 = 34 ∨ bt l 0 = 39 then _ else if bt l 0 = 91 then _ else if bt l 0 = 123 then (if 256 ≤ ar then Rs.bad 4 0 else if bt l (endP blK l 1) = 125 then _ else pairs (envF l) (g + 1) 0 ((⟨0, [], []⟩ : St).push (Nd.leaf 8 [] (0, 1)) (endP blK l 1)) ar) else _) = _
  rw [if_neg (by omega), if_neg (by omega), if_pos h0]
  by_cases h : 256 ≤ ar
  · rw [if_pos h, show 256 - ar = 0 by omega]
  · have ld := lead_bad (255 - ar) r 1 0 (ar + 1) { s0 with a := 1 } (by omega) (by rw [e0]; intro x hx; cases hx) (by rw [e0]; exact Nat.zero_lt_one) (by omega)
    rw [if_neg h, k1, if_neg (by omega), ← e0, pairs, envF_l]
    have ea : s0.a = 1 := by rw [e0]; rfl
    rw [ea, k1, kd]
    simp only [ld]
    rw [show 1 + 2 * (255 - ar) = 2 * (256 - ar) - 1 by omega]
end Tv
end Go.Proofs.YtbeefjhcbphiaaaGreatDoor
/- The texts of the law of depth: what is read of each. -/
namespace Go.Proofs.YtbeefjhcbphiaaaGreatDoor
open Go.RowKit
namespace Tv
open Ty (WR1 KR Ky Bs blK plK nxt krun endP endP_on endP_no endP_far)
open Lib (repeatL)

theorem rp_succ (q : Bs) (n : Nat) : repeatL q (n + 1) = q ++ repeatL q n := rfl
theorem rp_len (q : Bs) : ∀ n, (repeatL q n).length = q.length * n
  | 0 => rfl
  | n + 1 => by rw [rp_succ, List.length_append, rp_len q n, Nat.mul_succ, Nat.add_comm]
theorem rp_mem {q : Bs} {x : UInt8} : ∀ {n}, x ∈ repeatL q n → x ∈ q
  | 0, h => absurd h (by simp [repeatL])
  | n + 1, h => by
    rw [rp_succ, List.mem_append] at h
    rcases h with h | h
    · exact h
    · exact rp_mem h
theorem bt_lo2 {a b : Bs} {k : Nat} (h : k < a.length) : bt (a ++ b) k = bt a k := by simp [bt, List.getElem?_append, h]
theorem bt_up (a b : Bs) (k : Nat) : bt (a ++ b) (a.length + k) = bt b k := by unfold bt; rw [List.getD_eq_getElem?_getD, List.getD_eq_getElem?_getD, List.getElem?_append_right (by omega), Nat.add_sub_cancel_left]
theorem bt_rp {q : Bs} (r : Bs) : ∀ (n i t : Nat), i < n → t < q.length → bt (repeatL q n ++ r) (q.length * i + t) = bt q t
  | 0, _, _, h, _ => absurd h (by omega)
  | n + 1, 0, t, _, ht => by rw [rp_succ, List.append_assoc, Nat.mul_zero, Nat.zero_add, bt_lo2 ht]
  | n + 1, i + 1, t, h, ht => by rw [rp_succ, List.append_assoc, Nat.mul_succ, show q.length * i + q.length + t = q.length + (q.length * i + t) by omega, bt_up, bt_rp r n i t (by omega) ht]
theorem bt_re (q r : Bs) (n t : Nat) : bt (repeatL q n ++ r) (q.length * n + t) = bt r t := by rw [← rp_len, bt_up]
def LL (n : Nat) : Bs := repeatL [91] n ++ ([49] ++ repeatL [93] n)
def TL (n : Nat) : Bs := repeatL [123, 97, 61] n ++ ([49] ++ repeatL [125] n)
def WL (r : Nat) : Bs := [123] ++ (repeatL [97, 46] r ++ [97, 61, 49, 125])
theorem LL_len (n : Nat) : (LL n).length = 2 * n + 1 := by simp [LL, rp_len]; omega
theorem TL_len (n : Nat) : (TL n).length = 4 * n + 1 := by simp [TL, rp_len]; omega
theorem WL_len (r : Nat) : (WL r).length = 2 * r + 5 := by simp [WL, rp_len]
theorem LL_bt {n i : Nat} (h : i < n) : bt (LL n) i = 91 := by have := bt_rp (q := [91]) ([49] ++ repeatL [93] n) n i 0 h (by decide); rw [show ([91] : Bs).length * i + 0 = i by simp] at this; exact this
theorem LL_m (n : Nat) : bt (LL n) n = 49 := by have := bt_re [91] ([49] ++ repeatL [93] n) n 0; rw [show ([91] : Bs).length * n + 0 = n by simp] at this; exact this
theorem LL_e {n i : Nat} (h : i < n) : bt (LL n) (n + 1 + i) = 93 := by
  have := bt_re [91] ([49] ++ repeatL [93] n) n (1 + i)
  rw [show ([91] : Bs).length * n + (1 + i) = n + 1 + i by simp; omega] at this
  rw [LL, this, show (1 + i) = ([49] : Bs).length + i from rfl, bt_up]
  have := bt_rp (q := [93]) [] n i 0 h (by decide)
  rw [show ([93] : Bs).length * i + 0 = i by simp, List.append_nil] at this
  exact this
theorem TL_bt {n i t : Nat} (h : i < n) (ht : t < 3) : bt (TL n) (3 * i + t) = bt [123, 97, 61] t := bt_rp (q := [123, 97, 61]) ([49] ++ repeatL [125] n) n i t h ht
theorem TL_m (n : Nat) : bt (TL n) (3 * n) = 49 := bt_re [123, 97, 61] ([49] ++ repeatL [125] n) n 0
theorem TL_e {n i : Nat} (h : i < n) : bt (TL n) (3 * n + 1 + i) = 125 := by
  have := bt_re [123, 97, 61] ([49] ++ repeatL [125] n) n (1 + i)
  rw [show ([123, 97, 61] : Bs).length * n + (1 + i) = 3 * n + 1 + i by simp; omega] at this
  rw [TL, this, show (1 + i) = ([49] : Bs).length + i from rfl, bt_up]
  have := bt_rp (q := [125]) [] n i 0 h (by decide)
  rw [show ([125] : Bs).length * i + 0 = i by simp, List.append_nil] at this
  exact this
theorem WL_a {r i : Nat} (h : i ≤ r) : bt (WL r) (1 + 2 * i) = 97 := by
  rw [WL, show 1 + 2 * i = ([123] : Bs).length + 2 * i from rfl, bt_up]
  rcases Nat.lt_or_ge i r with h1 | h1
  · exact bt_rp (q := [97, 46]) [97, 61, 49, 125] r i 0 h1 (by decide)
  · obtain rfl : i = r := by omega
    exact bt_re [97, 46] [97, 61, 49, 125] i 0
theorem WL_d {r i : Nat} (h : i < r) : bt (WL r) (1 + 2 * i + 1) = 46 := by
  rw [WL, show 1 + 2 * i + 1 = ([123] : Bs).length + (2 * i + 1) by simp; omega, bt_up]
  exact bt_rp (q := [97, 46]) [97, 61, 49, 125] r i 1 h (by decide)
theorem WL_t (r t : Nat) : bt (WL r) (2 * r + 1 + t) = bt [97, 61, 49, 125] t := by
  rw [WL, show 2 * r + 1 + t = ([123] : Bs).length + (2 * r + t) by simp; omega, bt_up]
  exact bt_re [97, 46] [97, 61, 49, 125] r t
theorem simple_no {l : Bs} (h1 : (92 : UInt8) ∉ l) (h2 : (39 : UInt8) ∉ l) (h3 : (34 : UInt8) ∉ l) : Simple l :=
  ⟨h1, h2, fun p => by
    cases h : hasP (l.drop p) [34, 34, 34] with
    | false => rfl
    | true =>
      have h4 : bt (l.drop p) 0 = 34 := by
        cases hd : l.drop p with
        | nil => rw [hd] at h; simp [hasP] at h
        | cons c m =>
          rw [hd] at h
          simp [hasP] at h
          rw [h.1]; rfl
      rw [bt_drop] at h4
      have hp := bt_in h4 (by decide)
      have : l[p + 0]'hp = 34 := by
        have h5 : ((l.getD (p + 0) 0).toNat : Int) = 34 := h4
        rw [List.getD_eq_getElem?_getD, List.getElem?_eq_getElem hp] at h5
        exact UInt8.toNat_inj.1 (by show (l[p + 0]'hp).toNat = 34; rw [Option.getD_some] at h5; omega)
      exact absurd (this ▸ List.getElem_mem hp) h3⟩
theorem LL_simple (n : Nat) : Simple (LL n) := by
  refine simple_no ?_ ?_ ?_ <;>
  · intro h
    simp only [LL, List.mem_append] at h
    rcases h with h | h | h
    · exact absurd (rp_mem h) (by decide)
    · exact absurd h (by decide)
    · exact absurd (rp_mem h) (by decide)
theorem TL_simple (n : Nat) : Simple (TL n) := by
  refine simple_no ?_ ?_ ?_ <;>
  · intro h
    simp only [TL, List.mem_append] at h
    rcases h with h | h | h
    · exact absurd (rp_mem h) (by decide)
    · exact absurd h (by decide)
    · exact absurd (rp_mem h) (by decide)
theorem WL_simple (r : Nat) : Simple (WL r) := by
  refine simple_no ?_ ?_ ?_ <;>
  · intro h
    simp only [WL, List.mem_append] at h
    rcases h with h | h | h
    · exact absurd h (by decide)
    · exact absurd (rp_mem h) (by decide)
    · exact absurd h (by decide)
end Tv
end Go.Proofs.YtbeefjhcbphiaaaGreatDoor
/- The three texts of the law of depth, read: each is a tree of so many nodes, or one too deep at its place. -/
namespace Go.Proofs.YtbeefjhcbphiaaaGreatDoor
open Go.RowKit
namespace Tv
open Ty (WR1 KR Ky Bs blK plK nxt krun endP endP_on endP_no endP_far)
open Lib (repeatL)

def vk (l : Bs) (k : Nat) : Rs := val (envF l) (2 * l.length + 1) ⟨0, [], []⟩ k
theorem LL_ok {n k : Nat} (h0 : 0 < n) (h : k + n ≤ 256) : ∃ s, vk (LL n) k = .ok s ∧ s.a = (LL n).length ∧ s.X.length = n + 1 := by
  obtain ⟨s, h1, h2, h3⟩ := lists_ok (l := LL n) n (2 * (LL n).length + 1) ⟨0, [], []⟩ k (fun i hi => by show bt (LL n) (0 + i) = 91; rw [Nat.zero_add]; exact LL_bt hi)
    (by show bt (LL n) (0 + n) = 49; rw [Nat.zero_add]; exact LL_m n) (.inl (by show bt (LL n) (0 + n + 1) = 93; rw [Nat.zero_add]; exact LL_e (n := n) (i := 0) h0))
    (fun i hi => by show bt (LL n) (0 + n + 1 + i) = 93; rw [Nat.zero_add]; exact LL_e hi) (by rw [LL_len]; omega) h
  exact ⟨s, h1, by rw [h2, LL_len]; show 0 + 2 * n + 1 = _; omega, by rw [h3]; show 0 + n + 1 = _; omega⟩
theorem LL_bad {n k : Nat} (h0 : 0 < n) (h : 256 < k + n) : vk (LL n) k = .bad 4 (256 - k) := by
  have := lists_bad (l := LL n) (256 - k) (2 * (LL n).length + 1) ⟨0, [], []⟩ k (fun i hi => by show bt (LL n) (0 + i) = 91; rw [Nat.zero_add]; exact LL_bt (by omega)) (by rw [LL_len]; omega) (by omega)
  rw [vk, this]; show Rs.bad 4 (0 + (256 - k)) = _; rw [Nat.zero_add]
theorem TL_ok {n k : Nat} (h0 : 0 < n) (h : k + n ≤ 256) : ∃ s, vk (TL n) k = .ok s ∧ s.a = (TL n).length ∧ s.X.length = n + 1 := by
  obtain ⟨s, h1, h2, h3⟩ := tables_ok (l := TL n) n (2 * (TL n).length + 1) ⟨0, [], []⟩ k
    (fun i hi => by show bt (TL n) (0 + 3 * i) = 123 ∧ bt (TL n) (0 + 3 * i + 1) = 97 ∧ bt (TL n) (0 + 3 * i + 2) = 61; rw [Nat.zero_add]; exact ⟨TL_bt (t := 0) hi (by decide), TL_bt (t := 1) hi (by decide), TL_bt (t := 2) hi (by decide)⟩)
    (by show bt (TL n) (0 + 3 * n) = 49; rw [Nat.zero_add]; exact TL_m n) (.inr (by show bt (TL n) (0 + 3 * n + 1) = 125; rw [Nat.zero_add]; exact TL_e (n := n) (i := 0) h0))
    (fun i hi => by show bt (TL n) (0 + 3 * n + 1 + i) = 125; rw [Nat.zero_add]; exact TL_e hi) (fun x hx => by cases hx) (by rw [TL_len]; omega) h
  exact ⟨s, h1, by rw [h2, TL_len]; show 0 + 4 * n + 1 = _; omega, by rw [h3]; show 0 + n + 1 = _; omega⟩
theorem TL_bad {n k : Nat} (h0 : 0 < n) (h : 256 < k + n) : vk (TL n) k = .bad 4 (3 * (256 - k)) := by
  have := tables_bad (l := TL n) (256 - k) (2 * (TL n).length + 1) ⟨0, [], []⟩ k (fun i hi => by show bt (TL n) (0 + 3 * i) = 123; rw [Nat.zero_add]; exact TL_bt (t := 0) (by omega) (by decide))
    (fun i hi => by show bt (TL n) (0 + 3 * i + 1) = 97 ∧ bt (TL n) (0 + 3 * i + 2) = 61; rw [Nat.zero_add]; exact ⟨TL_bt (t := 1) (by omega) (by decide), TL_bt (t := 2) (by omega) (by decide)⟩) (fun x hx => by cases hx) (by rw [TL_len]; omega) (by omega)
  rw [vk, this]; show Rs.bad 4 (0 + 3 * (256 - k)) = _; rw [Nat.zero_add]
theorem WL_ok {r k : Nat} (h : k + r + 1 ≤ 256) : ∃ s, vk (WL r) k = .ok s ∧ s.a = (WL r).length ∧ s.X.length = r + 2 := by
  obtain ⟨s, h1, h2, h3⟩ := words_ok (l := WL r) r (2 * (WL r).length + 1) k rfl (fun t ht => WL_a ht) (fun t ht => WL_d ht) (WL_t r 1) (WL_t r 2) (WL_t r 3) (by rw [WL_len]; omega) (by rw [WL_len]; omega) h
  exact ⟨s, h1, by rw [h2, WL_len], h3⟩
theorem WL_bad {r k : Nat} (h : 256 < k + r + 1) : vk (WL r) k = .bad 4 (2 * (256 - k) - 1) :=
  words_bad (l := WL r) r (2 * (WL r).length + 1) k rfl (fun t ht => WL_a ht) (fun t ht => WL_d ht) (WL_t r 1) (by rw [WL_len]; omega) (by rw [WL_len]; omega) h
/-- A text, read: a tree of so many nodes. -/
theorem read_ok {l : Bs} {k n a : Nat} {s : ByteArray} {y : Int} (w : World) (hT : Fl.AllT w) (h : Simple l) (hs : s = txt l) (hl : l.length ≤ 50000) (hy : max y 0 = (k : Nat)) (hr : ∃ st, vk l k = .ok st ∧ st.a = a ∧ st.X.length = n) :
    Calls Tryz.prog 9 #[.string s, .int .i64 0, .int .i64 y] w fun e w' => ∃ A, e = .returned (.tuple #[.agg #[.slice A n n, .int .i64 0], .int .i64 (a : Nat), .agg #[.int .i64 0, .int .i64 0]]) ∧ Below w.heap.size w w' := by
  obtain ⟨st, hv, ha, hn⟩ := hr
  have hc := Read_in (y1 := 0) (y2 := y) (N := k) (a := 0) w (env_s h hs hl hT) (Nat.zero_le _) rfl hy
  rw [show val (envF l) (2 * (envF l).l.length + 1) ⟨0, [], []⟩ k = .ok st from hv] at hc
  refine hc.mono ?_
  rintro e w' ⟨hb, A, m, X, he, ht, hx, _⟩
  obtain rfl : m = n := by rw [← ht.len, ← hn]; have := congrArg List.length hx; rwa [List.length_map] at this
  exact ⟨A, by rw [he, ha], hb⟩
theorem read_bad {l : Bs} {k a : Nat} {s : ByteArray} {y : Int} (w : World) (hT : Fl.AllT w) (h : Simple l) (hs : s = txt l) (hl : l.length ≤ 50000) (hy : max y 0 = (k : Nat)) (hr : vk l k = .bad 4 a) :
    Calls Tryz.prog 9 #[.string s, .int .i64 0, .int .i64 y] w (RdP w (.bad 4 a)) := by
  have hc := Read_in (y1 := 0) (y2 := y) (N := k) (a := 0) w (env_s h hs hl hT) (Nat.zero_le _) rfl hy
  rw [show val (envF l) (2 * (envF l).l.length + 1) ⟨0, [], []⟩ k = .bad 4 a from hr] at hc
  exact hc
set_option maxHeartbeats 4000000 in
set_option maxRecDepth 100000 in
theorem fails_k {s : ByteArray} {c k : Nat} {x y z : Int} (w : World) (hC : Calls Tryz.prog 9 #[.string s, .int .i64 0, .int .i64 z] w (RdP w (.bad c k))) (hx : x = c) (hy : y = k) :
    Calls Tryz.prog 20 #[.string s, .int .i64 0, .int .i64 z, .int .i64 x, .int .i64 y] w fun e w' => e = .returned (.bool true) ∧ Below w.heap.size w w' := by
  subst hx hy
  have HC := Lib.hid hC
  clear hC
  go_enter Tryz.func20, Tryz.ntmps20
  go_wp2_with fail
  refine HC.out.mono ?_
  rintro e w1 ⟨hb1, rfl⟩
  have HB1 := Lib.hid hb1
  clear hb1
  go_upto_region 2 with fail
  have HP := Lib.hid (PB.start (w := w1) (sv := .slice none 0 0) (c := (c : Int)) (a := (k : Int)))
  obtain ⟨W, hW⟩ : ∃ W, W = (w1.alloc (trV (.slice none 0 0))).alloc (tgO (.slice none 0 0) c k) := ⟨_, rfl⟩
  rw [← hW] at HP ⊢
  obtain ⟨c0, c1, c2, c3⟩ := HP.out.cells
  have HBW := Lib.hid (below_tr HB1.out HP.out.below)
  clear hW
  go_wp2_with fail
  go_ret
  exact ⟨rfl, HBW.out⟩
end Tv
end Go.Proofs.YtbeefjhcbphiaaaGreatDoor
