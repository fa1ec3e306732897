/- Strings of escapes alone (lists alone). -/
import Derived.Test.YtilokhbhkbikiaaDoorQuB
namespace Go.Proofs.YtilokhbhkbikiaaDoor

namespace Qu
/-- A digit of base 16 as it is written, of either case. -/
def hdig (u : Bool) (d : Nat) : UInt8 := if d < 10 then UInt8.ofNat (48 + d) else UInt8.ofNat ((if u then 55 else 87) + d)
theorem dig_hdig (u : Bool) {d : Nat} (h : d < 16) : dig (hdig u d) = some d := by
  have : ∀ u : Bool, (List.range 16).all (fun d => dig (hdig u d) == some d) = true := by decide +kernel
  have := (List.all_eq_true.1 (this u)) d (List.mem_range.2 h)
  simpa using this
/-- The escape of a number. -/
def hexs (u : Bool) (n : Nat) : List UInt8 := [92, 117, hdig u (n / 4096 % 16), hdig u (n / 256 % 16), hdig u (n / 16 % 16), hdig u (n % 16)]
theorem hexs_len (u : Bool) (n : Nat) : (hexs u n).length = 6 := rfl
theorem un_hex (u : Bool) {n : Nat} (h : n < 65536) (r : List UInt8) : un (hexs u n ++ r) = .unit 6 (.rune n) r := by
  have e : hx 4 0 (hdig u (n / 4096 % 16) :: hdig u (n / 256 % 16) :: hdig u (n / 16 % 16) :: hdig u (n % 16) :: r) = .inr (n, r) := by
    simp only [hx, dig_hdig u (show n / 4096 % 16 < 16 by omega), dig_hdig u (show n / 256 % 16 < 16 by omega), dig_hdig u (show n / 16 % 16 < 16 by omega), dig_hdig u (show n % 16 < 16 by omega)]
    congr 2; omega
  have s : short 117 = none := by decide
  simp only [hexs, List.cons_append, List.nil_append, un]
  rw [if_neg (by decide), if_pos trivial]
  simp only [s, e]
  rfl
theorem tok_hex (u : Bool) {n : Nat} (h : n < 65536) (h1 : high n = false) (h2 : low n = false) (r : List UInt8) : tok (hexs u n ++ r) = .go 6 (pt n) r := by
  rw [tok, un_hex u h]; simp [h1, h2]
theorem tok_two (u : Bool) {n m : Nat} (h1 : high n = true) (h2 : low m = true) (r : List UInt8) : tok (hexs u n ++ (hexs u m ++ r)) = .go 12 (pt (pair n m)) r := by
  have := high_is h1; have := low_is h2
  rw [tok, un_hex u (by omega)]
  simp only [h1, if_true]
  rw [un_hex u (by omega)]
  simp only [h2, if_true]
theorem tok_low (u : Bool) {n : Nat} (h : low n = true) (r : List UInt8) : tok (hexs u n ++ r) = .stop (.bad true 0) := by
  have := low_is h
  rw [tok, un_hex u (by omega)]
  have : high n = false := by simp [high]; omega
  simp [this, h]
theorem tok_high (u : Bool) {n : Nat} (h : high n = true) {r : List UInt8} (hr : ∀ k m r', un r = .unit k (.rune m) r' → low m = false) : tok (hexs u n ++ r) = .stop (.bad true 0) := by
  have := high_is h
  rw [tok, un_hex u (by omega)]
  simp only [h, if_true]
  split
  · rename_i k m r' e
    rw [hr k m r' e]; rfl
  · rfl
/-- Is a number a rune's? -/
def isR (x : Int) : Bool := decide (0 ≤ x ∧ x ≤ 1114111 ∧ (x < 55296 ∨ 57343 < x))
def runesOf (l : List Int) : List Int := l.filter isR
/-- A rune's escapes. -/
def eE (u : Bool) (x : Int) : List UInt8 := if x < 65536 then hexs u x.toNat else hexs u (55296 + (x - 65536) / 1024).toNat ++ hexs u (56320 + (x - 65536) % 1024).toNat
theorem tok_eE (u : Bool) {x : Int} (h : isR x = true) (r : List UInt8) : tok (eE u x ++ r) = .go (eE u x).length (pt x.toNat) r := by
  have hx : 0 ≤ x ∧ x ≤ 1114111 ∧ (x < 55296 ∨ 57343 < x) := by simpa [isR] using h
  unfold eE
  split
  · rw [tok_hex u (by omega) (by simp [high]; omega) (by simp [low]; omega)]; rfl
  · rw [List.append_assoc, tok_two u (by simp [high]; omega) (by simp [low]; omega)]
    congr 2
    unfold pair; omega
def eBody (u : Bool) (l : List Int) : List UInt8 := (runesOf l).flatMap (eE u)
def eText (l : List Int) : List UInt8 := (runesOf l).flatMap (fun x => pt x.toNat)
theorem body_es (u : Bool) (r : List UInt8) : ∀ l : List Int, (∀ x ∈ l, isR x = true) → body (l.flatMap (eE u) ++ r) = (body r).pre (l.flatMap (eE u)).length (l.flatMap (fun x => pt x.toNat))
  | [], _ => by cases h : body r <;> simp [Res.pre, h]
  | x :: l, h => by
    rw [List.flatMap_cons, List.flatMap_cons, List.append_assoc, body_go (tok_eE u (h x (by simp)) _), body_es u r l (fun y hy => h y (by simp [hy])), pre_pre, List.length_append]
theorem body_eBody (u : Bool) (l : List Int) (r : List UInt8) : body (eBody u l ++ r) = (body r).pre (eBody u l).length (eText l) :=
  body_es u r _ fun x hx => by simpa using (List.mem_filter.1 hx).2
/-- The five answers of the chapter's escapes. -/
theorem esc_all (u : Bool) (l : List Int) : rdq (34 :: (eBody u l ++ [34])) = .ok (eText l) := by
  rw [rdq_cons, body_eBody, body_end]; simp [Res.pre]
theorem half_end (u : Bool) (l : List Int) {n : Nat} (h : high n = true ∨ low n = true) : rdq (34 :: (eBody u l ++ (hexs u n ++ [34]))) = .bad true ((eBody u l).length + 1) := by
  have e : tok (hexs u n ++ [34]) = .stop (.bad true 0) := by
    rcases h with h | h
    · exact tok_high u h (fun k m r' e => by cases e)
    · exact tok_low u h _
  rw [rdq_cons, body_eBody, body_stop e]; simp [Res.pre, Nat.add_comm]
theorem un_a (r : List UInt8) : un (97 :: r) = .unit 1 (.byte 97) r := by
  simp only [un]
  rw [if_neg (by decide), if_neg (by decide), if_neg (by decide)]
def isByt : Step → Bool | .unit _ (.byte _) _ => true | _ => false
theorem half_a_tok (u : Bool) {n : Nat} (h : high n = true ∨ low n = true) (r : List UInt8) : tok (hexs u n ++ (97 :: r)) = .stop (.bad true 0) := by
  rcases h with h | h
  · refine tok_high u h (fun k m r' e => ?_)
    have e2 := congrArg isByt e
    rw [un_a] at e2
    simp [isByt] at e2
  · exact tok_low u h _
theorem half_a (u : Bool) (l : List Int) {n : Nat} (h : high n = true ∨ low n = true) (r : List UInt8) : rdq (34 :: (eBody u l ++ (hexs u n ++ (97 :: r)))) = .bad true ((eBody u l).length + 1) := by
  have e := half_a_tok u h r
  rw [rdq_cons, body_eBody, body_stop e]; simp [Res.pre, Nat.add_comm]
theorem half_low (u : Bool) (l : List Int) {m : Nat} (h : low m = true) (r : List UInt8) : rdq (34 :: (eBody u l ++ (hexs u m ++ r))) = .bad true ((eBody u l).length + 1) := by
  rw [rdq_cons, body_eBody, body_stop (tok_low u h r)]; simp [Res.pre, Nat.add_comm]
theorem body_two {r t : List UInt8} {k : Nat} (h : tok r = .go k t [34]) : body r = .ok t := by
  rw [body_go h, body_end, Res.pre, List.append_nil]
theorem rdq_two (u : Bool) (l : List Int) {r t : List UInt8} (h : body r = .ok t) : rdq (34 :: (eBody u l ++ r)) = .ok (eText l ++ t) := by
  rw [rdq_cons, body_eBody, h, Res.pre, Res.pre, List.nil_append]
theorem both_ok (u : Bool) (l : List Int) {n m : Nat} (h1 : high n = true) (h2 : low m = true) : rdq (34 :: (eBody u l ++ (hexs u n ++ (hexs u m ++ [34])))) = .ok (eText l ++ pt (pair n m)) :=
  rdq_two u l (body_two (tok_two u h1 h2 [34]))
end Qu
end Go.Proofs.YtilokhbhkbikiaaDoor
