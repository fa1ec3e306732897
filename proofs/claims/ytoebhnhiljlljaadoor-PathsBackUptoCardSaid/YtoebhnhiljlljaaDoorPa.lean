/- Paths as lists have them: whether they may be, their text, and reading it. -/
import Derived.PlainAid
namespace Go.Proofs.YtoebhnhiljlljaaDoor
namespace Pa
abbrev Bs := List UInt8
/-- A step. -/
structure St where
  kind : Nat
  text : Bs
  pos : Int
  id : Bs
deriving DecidableEq
def St.may (s : St) : Bool := decide (s.kind ≤ 2 ∧ 0 ≤ s.pos ∧ (s.kind ≠ 1 → s.pos = 0) ∧ (s.kind = 1 → s.text = []) ∧ (s.kind ≠ 2 → s.id = []))
def pMay (p : List St) : Bool := decide (p.length ≤ 512) && p.all St.may
/-- What is not written as it is. -/
def spec (c : UInt8) : Bool := decide (c < 32) || c == 127 || c == 37 || c == 47 || c == 91 || c == 93 || c == 61
def stop (c : UInt8) : Bool := c == 47 || c == 91 || c == 93 || c == 61
def hexd (n : UInt8) : UInt8 := if n < 10 then 48 + n else 87 + n
def hexv (c : UInt8) : Option UInt8 := if 48 ≤ c ∧ c ≤ 57 then some (c - 48) else if 97 ≤ c ∧ c ≤ 102 then some (c - 87) else none
def esc (c : UInt8) : Bs := if spec c then [37, hexd (c / 16), hexd (c % 16)] else [c]
def hide (t : Bs) : Bs := t.flatMap esc
def digF : Nat → Nat → Bs
  | 0, n => [48 + UInt8.ofNat (n % 10)]
  | f + 1, n => if n < 10 then [48 + UInt8.ofNat (n % 10)] else digF f (n / 10) ++ [48 + UInt8.ofNat (n % 10)]
def digs (n : Nat) : Bs := digF n n
def St.txt (s : St) : Bs := match s.kind with
  | 0 => 47 :: hide s.text
  | 1 => 91 :: (digs s.pos.toNat ++ [93])
  | _ => 91 :: (hide s.text ++ 61 :: (hide s.id ++ [93]))
def pT (p : List St) : Bs := if pMay p then (if p = [] then [46] else p.flatMap St.txt) else []
/-- A word, up to a mark; what follows. -/
def showF : Nat → Bs → Option (Bs × Bs)
  | _, [] => some ([], [])
  | 0, _ => none
  | f + 1, c :: r => if stop c then some ([], c :: r) else if c = 37 then
      (match r with
      | a :: b :: q => (match hexv a, hexv b with
        | some x, some y => (showF f q).map fun e => ((16 * x + y) :: e.1, e.2)
        | _, _ => none)
      | _ => none)
    else (showF f r).map fun e => (c :: e.1, e.2)
theorem showF_plain {f : Nat} {c : UInt8} {r : Bs} (h1 : stop c = false) (h2 : c ≠ 37) : showF (f + 1) (c :: r) = (showF f r).map fun e => (c :: e.1, e.2) := by
  conv => lhs; unfold showF
  rw [if_neg (by rw [h1]; decide), if_neg h2]
theorem esc_hex : ∀ c : UInt8, hexv (hexd (c / 16)) = some (c / 16) ∧ hexv (hexd (c % 16)) = some (c % 16) ∧ 16 * (c / 16) + c % 16 = c := by
  intro c
  have h : ∀ n : Fin 256, hexv (hexd (UInt8.ofNat n / 16)) = some (UInt8.ofNat n / 16) ∧ hexv (hexd (UInt8.ofNat n % 16)) = some (UInt8.ofNat n % 16) ∧ 16 * (UInt8.ofNat n / 16) + UInt8.ofNat n % 16 = UInt8.ofNat n := by decide +kernel
  have := h ⟨c.toNat, c.toNat_lt⟩
  simpa using this
theorem spec_stop {c : UInt8} (h : spec c = false) : stop c = false ∧ c ≠ 37 := by
  simp only [spec, stop, Bool.or_eq_false_iff, beq_eq_false_iff_ne] at h ⊢
  exact ⟨⟨⟨⟨h.1.1.1.2, h.1.1.2⟩, h.1.2⟩, h.2⟩, h.1.1.1.1.2⟩
theorem hide_len (t : Bs) : t.length ≤ (hide t).length := by
  induction t with
  | nil => simp [hide]
  | cons c r ih =>
    have h1 : hide (c :: r) = esc c ++ hide r := by simp [hide]
    have h2 : 1 ≤ (esc c).length := by unfold esc; split <;> simp
    rw [h1, List.length_append, List.length_cons]; omega
/-- A word that is written is read. -/
theorem show_hide (t q : Bs) (hq : q = [] ∨ ∃ c r, q = c :: r ∧ stop c = true) : ∀ f, (hide t ++ q).length ≤ f → showF f (hide t ++ q) = some (t, q) := by
  induction t with
  | nil =>
    intro f hf
    rcases hq with rfl | ⟨c, r, rfl, h⟩
    · cases f <;> simp [hide, showF]
    · cases f with
      | zero => simp [hide] at hf
      | succ f => simp [hide, showF, h]
  | cons c t ih =>
    intro f hf
    have h1 : hide (c :: t) = esc c ++ hide t := by simp [hide]
    rw [h1, List.append_assoc] at hf ⊢
    by_cases hs : spec c = true
    · have he : esc c = [37, hexd (c / 16), hexd (c % 16)] := by unfold esc; rw [if_pos hs]
      rw [he] at hf ⊢
      simp only [List.cons_append, List.nil_append, List.length_cons] at hf ⊢
      obtain ⟨g, rfl⟩ : ∃ g, f = g + 1 := ⟨f - 1, by omega⟩
      obtain ⟨e1, e2, e3⟩ := esc_hex c
      rw [showF, if_neg (by decide), if_pos rfl]
      simp only [e1, e2]
      rw [ih g (by omega)]
      simp [e3]
    · have hs : spec c = false := by simpa using hs
      have he : esc c = [c] := by unfold esc; rw [if_neg (by rw [hs]; decide)]
      obtain ⟨s1, s2⟩ := spec_stop hs
      rw [he] at hf ⊢
      simp only [List.cons_append, List.nil_append, List.length_cons] at hf ⊢
      obtain ⟨g, rfl⟩ : ∃ g, f = g + 1 := ⟨f - 1, by omega⟩
      rw [showF_plain s1 s2, ih g (by omega)]
      rfl
/-- A word's text is no other one's, with what follows. -/
theorem hide_inj {t u q r : Bs} (hq : q = [] ∨ ∃ c s, q = c :: s ∧ stop c = true) (hr : r = [] ∨ ∃ c s, r = c :: s ∧ stop c = true) (h : hide t ++ q = hide u ++ r) : t = u ∧ q = r := by
  have h1 := show_hide t q hq _ (Nat.le_refl _)
  have h2 := show_hide u r hr _ (Nat.le_refl _)
  rw [h, h2] at h1
  injection h1 with h1
  injection h1 with h1 h3
  exact ⟨h1.symm, h3.symm⟩
theorem digF_ne : ∀ (f n : Nat), digF f n ≠ []
  | 0, n => by simp [digF]
  | f + 1, n => by rw [digF]; split <;> simp
theorem dig_spec : ∀ k : Fin 10, spec (48 + UInt8.ofNat k) = false ∧ (48 + UInt8.ofNat k).toNat = 48 + k := by decide +kernel
/-- The number that digits tell. -/
def numR (l : Bs) : Nat := l.foldl (fun a c => a * 10 + (c.toNat - 48)) 0
theorem numR_app (l : Bs) (c : UInt8) : numR (l ++ [c]) = numR l * 10 + (c.toNat - 48) := by unfold numR; rw [List.foldl_append]; rfl
theorem digF_num : ∀ (f n : Nat), n ≤ f → numR (digF f n) = n ∧ ∀ c ∈ digF f n, 48 ≤ c.toNat ∧ c.toNat ≤ 57
  | 0, n, h => by
    obtain rfl : n = 0 := by omega
    exact ⟨by decide, by decide⟩
  | f + 1, n, h => by
    have hd := (dig_spec ⟨n % 10, by omega⟩).2
    have hd : (48 + UInt8.ofNat (n % 10)).toNat = 48 + n % 10 := hd
    rw [digF]
    split
    · refine ⟨?_, ?_⟩
      · rw [show ([48 + UInt8.ofNat (n % 10)] : Bs) = [] ++ [48 + UInt8.ofNat (n % 10)] from rfl, numR_app, hd]
        have : numR [] = 0 := rfl
        omega
      · intro c hc
        obtain rfl : c = 48 + UInt8.ofNat (n % 10) := by simpa using hc
        omega
    · obtain ⟨h1, h2⟩ := digF_num f (n / 10) (by omega)
      refine ⟨?_, ?_⟩
      · rw [numR_app, h1, hd]; omega
      · intro c hc
        rcases List.mem_append.1 hc with hc | hc
        · exact h2 c hc
        · obtain rfl : c = 48 + UInt8.ofNat (n % 10) := by simpa using hc
          omega
theorem digs_num (n : Nat) : numR (digs n) = n := (digF_num n n (Nat.le_refl _)).1
theorem digs_mem (n : Nat) : ∀ c ∈ digs n, 48 ≤ c.toNat ∧ c.toNat ≤ 57 := (digF_num n n (Nat.le_refl _)).2
theorem dig_plain {c : UInt8} (h : 48 ≤ c.toNat ∧ c.toNat ≤ 57) : spec c = false := by
  have e : c = UInt8.ofNat c.toNat := by simp
  have := (dig_spec ⟨c.toNat - 48, by omega⟩).1
  have e2 : (48 + UInt8.ofNat (c.toNat - 48) : UInt8) = c := by
    apply UInt8.toNat_inj.1
    have := (dig_spec ⟨c.toNat - 48, by omega⟩).2
    have this : (48 + UInt8.ofNat (c.toNat - 48)).toNat = 48 + (c.toNat - 48) := this
    omega
  rw [← e2]; exact this
theorem hide_plain {l : Bs} (h : ∀ c ∈ l, spec c = false) : hide l = l := by
  induction l with
  | nil => rfl
  | cons c r ih =>
    have h1 : hide (c :: r) = esc c ++ hide r := by simp [hide]
    rw [h1, ih fun c hc => h c (List.mem_cons_of_mem _ hc)]
    unfold esc
    rw [if_neg (by rw [h c (List.mem_cons_self ..)]; decide)]; rfl
/-- Digits are written as they are. -/
theorem hide_digs (n : Nat) : hide (digs n) = digs n := hide_plain fun c hc => dig_plain (digs_mem n c hc)
end Pa
end Go.Proofs.YtoebhnhiljlljaaDoor
