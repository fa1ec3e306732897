/- Normal forms, as lists: what is printed is read again as itself. -/
import Derived.Test.YtbeefjhcbphiaaaGreatDoorGd
namespace Go.Proofs.YtbeefjhcbphiaaaGreatDoor.De
open Go.RowKit

def nb (x : UInt8) : Bool := nmr (x.toNat : Int)
theorem bt_app_lt {a : List UInt8} (b : List UInt8) {k : Nat} (h : k < a.length) : bt (a ++ b) k = bt a k := by simp [bt, List.getElem?_append, h]
theorem bt_app_ge (a b : List UInt8) {k : Nat} (h : a.length ≤ k) : bt (a ++ b) k = bt b (k - a.length) := by simp [bt, List.getElem?_append, Nat.not_lt.2 h]
theorem bt_app (a b : List UInt8) : bt (a ++ b) a.length = bt b 0 := by rw [bt_app_ge _ _ (Nat.le_refl _), Nat.sub_self]
theorem bt_cons (x : UInt8) (b : List UInt8) : bt (x :: b) 0 = (x.toNat : Int) := by simp [bt]
theorem nmr_no {c : Int} (h : c < 48 ∨ 57 < c) : nmr c = false := by simp [nmr]; omega
theorem nmr_zero : nmr 0 = false := rfl
theorem runE_app (T : List UInt8) : ∀ (a c : List UInt8), (∀ x ∈ T, nb x = true) → nmr (bt c 0) = false → runE (a ++ (T ++ c)) a.length = a.length + T.length := by
  induction T with
  | nil => intro a c _ hc; rw [List.nil_append, runE_end (by rw [bt_app, hc]; simp)]; rfl
  | cons x T ih =>
    intro a c hT hc
    have hx : nmr (bt (a ++ (x :: T ++ c)) a.length) = true := by rw [bt_app, List.cons_append, bt_cons]; exact hT x (by simp)
    rw [runE_on (by simp) hx]
    have := ih (a ++ [x]) c (fun y hy => hT y (by simp [hy])) hc
    rw [show a ++ [x] ++ (T ++ c) = a ++ (x :: T ++ c) by simp, List.length_append] at this
    rw [show a.length + 1 = a.length + [x].length from rfl, this]; simp; omega
/-- What numerals tell. -/
def val : List UInt8 → Int → Int
  | [], n => n
  | x :: D, n => val D (10 * n + ((x.toNat : Int) - 48))
theorem val_app (D E : List UInt8) : ∀ n, val (D ++ E) n = val E (val D n) := by
  induction D with
  | nil => intro n; rfl
  | cons x D ih => intro n; exact ih _
theorem nb_range {x : UInt8} (h : nb x = true) : 48 ≤ (x.toNat : Int) ∧ (x.toNat : Int) ≤ 57 := by simpa [nb, nmr] using h
theorem val_ge (D : List UInt8) : ∀ n : Int, (∀ x ∈ D, nb x = true) → 0 ≤ n → n ≤ val D n := by
  induction D with
  | nil => intro n _ _; exact Int.le_refl _
  | cons x D ih =>
    intro n hD hn
    have hx := nb_range (hD x (by simp))
    have := ih (10 * n + ((x.toNat : Int) - 48)) (fun y hy => hD y (by simp [hy])) (by omega)
    show n ≤ val D (10 * n + ((x.toNat : Int) - 48))
    omega
theorem powA_val (D : List UInt8) : ∀ (a : List UInt8) (n : Int), (∀ x ∈ D, nb x = true) → 0 ≤ n → val D n ≤ 1000000000 → powA (a ++ D) (a.length + D.length) a.length n = some (val D n) := by
  induction D with
  | nil => intro a n _ _ _; rw [powA_end (by simp)]; rfl
  | cons x D ih =>
    intro a n hD hn hv
    have hx := nb_range (hD x (by simp))
    have hv' : val D (10 * n + ((x.toNat : Int) - 48)) ≤ 1000000000 := hv
    have hge := val_ge D (10 * n + ((x.toNat : Int) - 48)) (fun y hy => hD y (by simp [hy])) (by omega)
    have hb : bt (a ++ x :: D) a.length = (x.toNat : Int) := by rw [bt_app, bt_cons]
    rw [powA_on (by simp) (by rw [hb]; omega), hb]
    have := ih (a ++ [x]) (10 * n + ((x.toNat : Int) - 48)) (fun y hy => hD y (by simp [hy])) (by omega) hv'
    rw [show a ++ [x] ++ D = a ++ x :: D by simp] at this
    rw [show a.length + 1 = (a ++ [x]).length by simp, show a.length + (x :: D).length = (a ++ [x]).length + D.length by simp; omega, this]; rfl
theorem u8_digit (n : Nat) (h : n < 10) : ((UInt8.ofNat (48 + n)).toNat : Int) = 48 + n := by
  have : (48 + n) % 256 = 48 + n := Nat.mod_eq_of_lt (by omega)
  simp; omega
theorem itoN_spec (n : Nat) : (∀ x ∈ itoN n, nb x = true) ∧ val (itoN n) 0 = n ∧ itoN n ≠ [] := by
  induction n using Nat.strongRecOn with
  | ind n ih =>
    by_cases h : n < 10
    · rw [itoN_lt h]
      have e := u8_digit n h
      refine ⟨fun x hx => ?_, ?_, by simp⟩
      · obtain rfl : x = UInt8.ofNat (48 + n) := by simpa using hx
        unfold nb; rw [e]; simp [nmr]; omega
      · simp only [val]; rw [e]; omega
    · rw [itoN_ge h]
      obtain ⟨a1, a2, a3⟩ := ih (n / 10) (by omega)
      obtain ⟨b1, b2, b3⟩ := ih (n % 10) (by omega)
      refine ⟨fun x hx => ?_, ?_, by simp [a3]⟩
      · rcases List.mem_append.1 hx with h1 | h1
        · exact a1 x h1
        · exact b1 x h1
      · rw [val_app, a2, itoN_lt (by omega)]
        simp only [val]; rw [u8_digit _ (by omega)]; omega
end Go.Proofs.YtbeefjhcbphiaaaGreatDoor.De
/- A normal form read again. -/
namespace Go.Proofs.YtbeefjhcbphiaaaGreatDoor.De
open Go.RowKit

def sg (m : Bool) : List UInt8 := if m = true then [45] else []
def mk (m : Bool) (T : List UInt8) (N : Int) : List UInt8 := sg m ++ T ++ [101] ++ itoL N
theorem itoL_sg (N : Int) : itoL N = sg (decide (N < 0)) ++ itoN N.natAbs := by
  unfold itoL sg
  by_cases h : N < 0
  · rw [if_pos h, if_pos (by simp [h]), show (-N).toNat = N.natAbs by omega]; rfl
  · rw [if_neg h, if_neg (by simp [h]), show N.toNat = N.natAbs by omega]; rfl
theorem bt_head {T : List UInt8} (h : ∀ x ∈ T, nb x = true) (hne : T ≠ []) : 48 ≤ bt T 0 ∧ bt T 0 ≤ 57 := by
  cases T with
  | nil => exact absurd rfl hne
  | cons x T => rw [bt_cons]; exact nb_range (h x (by simp))
structure Parse (l : List UInt8) (m : Bool) (T : List UInt8) (N : Int) : Prop where
  e0 : q0 l = (sg m).length
  e1 : q1 l = (sg m).length + T.length
  e2 : q2 l = q1 l
  e3 : q3 l = q1 l
  is : isB l = true
  pow : powR l (q4 l) (q5 l) = (N, true)
  neg : (bt l 0 = 45) ↔ m = true
theorem mk_parse (m : Bool) (T : List UInt8) (N : Int) (hT : ∀ x ∈ T, nb x = true) (hne : T ≠ []) (hh : bt T 0 ≠ 48) (hN1 : -1000000000 ≤ N) (hN2 : N ≤ 1000000000) : Parse (mk m T N) m T N := by
  obtain ⟨d1, d2, d3⟩ := itoN_spec N.natAbs
  have hTh := bt_head hT hne
  have hDh := bt_head d1 d3
  have hTl : 0 < T.length := List.length_pos_iff.2 hne
  have hDl : 0 < (itoN N.natAbs).length := List.length_pos_iff.2 d3
  obtain ⟨l, hl⟩ : ∃ l, l = mk m T N := ⟨_, rfl⟩
  rw [← hl]
  have f1 : l = sg m ++ (T ++ ([101] ++ itoL N)) := by rw [hl]; simp [mk]
  have f2 : l = (sg m ++ T) ++ ([101] ++ itoL N) := by rw [hl]; simp [mk]
  have f3 : l = (sg m ++ T ++ [101]) ++ itoL N := by rw [hl]; simp [mk]
  have f4 : l = (sg m ++ T ++ [101] ++ sg (decide (N < 0))) ++ (itoN N.natAbs ++ []) := by rw [hl, mk, itoL_sg]; simp
  have b0 : bt l (sg m).length = bt T 0 := by
    rw [f1, bt_app, bt_app_lt _ hTl]
  have hneg : (bt l 0 = 45) ↔ m = true := by
    cases m
    · have : bt l 0 = bt T 0 := b0
      rw [this]; simp; omega
    · rw [f1]; simp [sg, bt]
  have e0 : q0 l = (sg m).length := by
    unfold q0
    cases m
    · rw [if_neg (fun h => by simpa using hneg.1 h)]; rfl
    · rw [if_pos (hneg.2 rfl)]; rfl
  have h101 : bt ([101] ++ itoL N) 0 = 101 := bt_cons 101 _
  have e1 : q1 l = (sg m).length + T.length := by
    unfold q1; rw [e0, f1]; exact runE_app T _ _ hT (by rw [h101]; rfl)
  have b1 : bt l (q1 l) = 101 := by rw [e1, ← List.length_append]; conv => lhs; rw [f2]
                                    rw [bt_app, h101]
  have hbad : bad1 l = false := by
    unfold bad1; rw [e0, b0, e1]; simp; constructor
    · omega
    · intro h; exact absurd h hh
  have hdot : dot l = false := by unfold dot; rw [b1]; rfl
  have e2 : q2 l = q1 l := by unfold q2; rw [hdot]; rfl
  have e3 : q3 l = q1 l := by unfold q3; rw [hdot]; rfl
  have hexq : exq l = true := by unfold exq; rw [e3, b1]; rfl
  have b2 : bt l (q1 l + 1) = bt (itoL N) 0 := by
    rw [e1, show (sg m).length + T.length + 1 = (sg m ++ T ++ [101]).length by simp; omega]; conv => lhs; rw [f3]
    rw [bt_app]
  have hsgn : sgn l = decide (N < 0) := by
    unfold sgn; rw [e3, b2]
    unfold itoL; split
    · rename_i h; rw [bt_cons]; simp [h]
    · rename_i h
      rw [show N.toNat = N.natAbs by omega]
      simp [h]; omega
  have e4 : q4 l = (sg m ++ T ++ [101] ++ sg (decide (N < 0))).length := by
    unfold q4; rw [hexq, hsgn, e3, e1]
    by_cases h : N < 0 <;> simp [h, sg] <;> omega
  have e5 : q5 l = q4 l + (itoN N.natAbs).length := by
    unfold q5; rw [hexq, e4]; simp only [if_true]; conv => lhs; rw [f4]
    exact runE_app _ _ _ d1 rfl
  have hlen : q5 l = l.length := by rw [e5, e4]; conv => rhs; rw [f4]
                                    simp; omega
  have his : isB l = true := by
    unfold isB; rw [hbad, hdot, hlen, hexq]
    have : l.length ≠ q4 l := by rw [← hlen, e5]; omega
    simp [this]
  have hpow : powR l (q4 l) (q5 l) = (N, true) := by
    have hp : powA l (q5 l) (q4 l) 0 = some (val (itoN N.natAbs) 0) := by
      rw [e5, e4]; conv => lhs; rw [f4, List.append_nil]
      exact powA_val _ _ 0 d1 (by omega) (by rw [d2]; omega)
    unfold powR
    rw [hp, d2]
    simp only []
    have hlt : q4 l < q5 l := by omega
    by_cases h : N < 0
    · have : bt l (q4 l - 1) = 45 := by
        have e : q4 l - 1 = (sg m ++ T ++ [101]).length := by rw [e4]; simp [h, sg]
        rw [e, f3, bt_app, itoL_sg]; simp [h, sg, bt]
      rw [if_pos ⟨hlt, this⟩]; congr 1; omega
    · have : bt l (q4 l - 1) = 101 := by
        have e : q4 l - 1 = (sg m ++ T).length := by rw [e4]; simp [h, sg]
        rw [e, f2, bt_app, h101]
      rw [if_neg (fun h => by omega)]; congr 1; omega
  exact ⟨e0, e1, e2, e3, his, hpow, hneg⟩
/-- What is a normal form's numerals. -/
structure Fine (T : List UInt8) : Prop where
  nums : ∀ x ∈ T, nb x = true
  some : T ≠ []
  first : bt T 0 ≠ 48
  last : bt T (T.length - 1) ≠ 48
theorem rd_mk (m : Bool) {T : List UInt8} (N : Int) (hT : Fine T) (hN1 : -1000000000 ≤ N) (hN2 : N ≤ 1000000000) :
    rd (mk m T N) = (mk m T N, 0) ∧ norm (mk m T N) = true ∧ mk m T N ≠ [48] ∧ ptM (mk m T N) = m ∧ ptD (mk m T N) = T ∧ ptX (mk m T N) = N := by
  have P := mk_parse m T N hT.nums hT.some hT.first hN1 hN2
  have hTl : 0 < T.length := List.length_pos_iff.2 hT.some
  have hcut : ((mk m T N).take (q1 (mk m T N))).drop (q0 (mk m T N)) = T := by
    rw [P.e0, P.e1, ← List.length_append, show mk m T N = (sg m ++ T) ++ ([101] ++ itoL N) by simp [mk], List.take_left, List.drop_left]
  have hD : rdD (mk m T N) = T := by
    unfold rdD; rw [hcut, P.e2, P.e3]; simp
  have hR : trimR (rdD (mk m T N)) = T := by rw [hD]; exact trimR_end (fun h => hT.last h.2)
  have hT' : rdT (mk m T N) = T := by unfold rdT; rw [hR]; exact trimL_end (fun h => hT.first h.2)
  have hN : rdN (mk m T N) = N := by unfold rdN; rw [hR, hD, P.pow, P.e2, P.e3]; simp
  have h48 : mk m T N ≠ [48] := by
    intro h
    have := congrArg List.length h
    simp [mk] at this
    have := List.length_pos_iff.2 (itoN_spec N.natAbs).2.2
    have e := itoL_sg N
    have := congrArg List.length e
    simp at this; omega
  have hr : rd (mk m T N) = (mk m T N, 0) := by
    rw [rd_ok P.is (by rw [P.pow]) (by rw [hT']; exact hT.some) (by rw [hN]; omega), hT', hN]
    have e : (if bt (mk m T N) 0 = 45 then [(45 : UInt8)] else []) = sg m := by
      unfold sg
      by_cases h : m = true
      · rw [if_pos (P.neg.2 h), if_pos h]
      · rw [if_neg (fun h2 => h (P.neg.1 h2)), if_neg h]
    rw [e]; rfl
  have hn : norm (mk m T N) = true := by unfold norm; rw [hr]; simp
  refine ⟨hr, hn, h48, ?_, ?_, ?_⟩
  · unfold ptM; rw [hn]
    cases m
    · simp; intro _ h; exact absurd (P.neg.1 h) (by simp)
    · simp [h48, P.neg.2 rfl]
  · unfold ptD; rw [if_neg (by rw [hn]; simp), if_neg h48, hcut]
  · unfold ptX; rw [if_neg (fun h => h.elim (by rw [hn]; simp) h48), P.pow]
theorem nb_of_runE {l : List UInt8} {i : Nat} : ∀ x ∈ (l.take (runE l i)).drop i, nb x = true := by
  intro x hx
  obtain ⟨k, hk, rfl⟩ := List.mem_iff_getElem.1 hx
  simp at hk
  have := runE_nmr l i (i + k) (by omega) (by omega)
  unfold nb
  simpa [bt, show i + k < l.length by omega] using this
theorem rdD_nb (l : List UInt8) : ∀ x ∈ rdD l, nb x = true := by
  intro x hx
  unfold rdD at hx
  rcases List.mem_append.1 hx with h | h
  · exact nb_of_runE x h
  · unfold q3 at h; split at h
    · exact nb_of_runE x h
    · have : q1 l ≤ q2 l := (q_order (l := l)).2.1
      have e : (l.take (q1 l)).drop (q2 l) = [] := List.drop_eq_nil_of_le (by simp; omega)
      rw [e] at h; exact absurd h (by simp)
theorem trimR_spec (d : List UInt8) : (∀ x ∈ trimR d, x ∈ d) ∧ (trimR d ≠ [] → bt (trimR d) ((trimR d).length - 1) ≠ 48) := by
  by_cases h : 0 < d.length ∧ bt d (d.length - 1) = 48
  · rw [trimR_on h.1 h.2]
    have := trimR_spec (d.take (d.length - 1))
    exact ⟨fun x hx => List.mem_of_mem_take (this.1 x hx), this.2⟩
  · rw [trimR_end h]
    exact ⟨fun x hx => hx, fun hne h2 => h ⟨List.length_pos_iff.2 hne, h2⟩⟩
termination_by d.length
decreasing_by simp; omega
theorem trimL_spec (d : List UInt8) : (∀ x ∈ trimL d, x ∈ d) ∧ (trimL d ≠ [] → bt (trimL d) 0 ≠ 48 ∧ bt (trimL d) ((trimL d).length - 1) = bt d (d.length - 1)) := by
  by_cases h : 0 < d.length ∧ bt d 0 = 48
  · rw [trimL_on h.1 h.2]
    have := trimL_spec (d.drop 1)
    refine ⟨fun x hx => List.mem_of_mem_drop (this.1 x hx), fun hne => ⟨(this.2 hne).1, ?_⟩⟩
    rw [(this.2 hne).2, bt_drop]
    have h2 : 0 < (d.drop 1).length := by
      rcases Nat.eq_zero_or_pos (d.drop 1).length with h3 | h3
      · have e := List.length_eq_zero_iff.1 h3
        have := trimL_len (d.drop 1)
        exact absurd (List.length_eq_zero_iff.1 (by omega)) hne
      · exact h3
    congr 1; simp at h2 ⊢; omega
  · rw [trimL_end h]
    exact ⟨fun x hx => hx, fun hne => ⟨fun h2 => h ⟨List.length_pos_iff.2 hne, h2⟩, rfl⟩⟩
termination_by d.length
decreasing_by simp; omega
theorem rdT_fine {l : List UInt8} (h : rdT l ≠ []) : Fine (rdT l) := by
  have hL := trimL_spec (trimR (rdD l))
  have hR := trimR_spec (rdD l)
  have h2 : trimR (rdD l) ≠ [] := by
    intro e
    unfold rdT at h; rw [e] at h
    exact h (trimL_end (by simp))
  exact ⟨fun x hx => rdD_nb l x (hR.1 x (hL.1 x hx)), h, (hL.2 h).1, by unfold rdT; rw [(hL.2 h).2]; exact hR.2 h2⟩
/-- What Read's text is where there is one. -/
theorem rd_shape {l : List UInt8} (h : (rd l).2 = 0) : (rd l).1 = [48] ∨ ∃ m T N, (rd l).1 = mk m T N ∧ Fine T ∧ -1000000000 ≤ N ∧ N ≤ 1000000000 := by
  cases h1 : isB l
  · rw [rd_syntax h1] at h; simp at h
  · cases h2 : (powR l (q4 l) (q5 l)).2
    · rw [rd_exp h1 h2] at h; simp at h
    · by_cases h3 : rdT l = []
      · left; rw [rd_zero h1 h2 h3]
      · by_cases h4 : rdN l > 1000000000 ∨ rdN l < -1000000000
        · rw [rd_far h1 h2 h3 h4] at h; simp at h
        · right
          refine ⟨decide (bt l 0 = 45), rdT l, rdN l, ?_, rdT_fine h3, by omega, by omega⟩
          rw [rd_ok h1 h2 h3 h4]
          simp [mk, sg]
end Go.Proofs.YtbeefjhcbphiaaaGreatDoor.De
/- The order of normal forms, as lists. -/
namespace Go.Proofs.YtbeefjhcbphiaaaGreatDoor.De
open Go.RowKit

def lexL : List UInt8 → List UInt8 → Bool
  | [], [] => false
  | [], _ :: _ => true
  | _ :: _, [] => false
  | a :: s, b :: t => if a = b then lexL s t else decide (a.toNat < b.toNat)
theorem lexL_irr (d : List UInt8) : lexL d d = false := by
  induction d with
  | nil => rfl
  | cons a s ih => simp [lexL, ih]
theorem u8_ne {a b : UInt8} (h : a ≠ b) : a.toNat ≠ b.toNat := fun e => h (UInt8.toNat_inj.1 e)
theorem lexL_asym : ∀ d e : List UInt8, lexL d e = true → lexL e d = false
  | [], [], h => by cases h
  | [], _ :: _, _ => rfl
  | _ :: _, [], h => by cases h
  | a :: s, b :: t, h => by
    by_cases e : a = b
    · subst e; simp [lexL] at h ⊢; exact lexL_asym s t h
    · simp [lexL, e] at h; simp [lexL, Ne.symm e]; omega
theorem lexL_tot : ∀ d e : List UInt8, d ≠ e → lexL d e = true ∨ lexL e d = true
  | [], [], h => absurd rfl h
  | [], _ :: _, _ => Or.inl rfl
  | _ :: _, [], _ => Or.inr rfl
  | a :: s, b :: t, h => by
    by_cases e : a = b
    · subst e; simp [lexL]; exact lexL_tot s t (fun h2 => h (by rw [h2]))
    · have := u8_ne e; simp [lexL, e, Ne.symm e]; omega
theorem lexL_tra : ∀ d e f : List UInt8, lexL d e = true → lexL e f = true → lexL d f = true
  | _, [], [], _, h => by cases h
  | [], [], _ :: _, h, _ => by cases h
  | _ :: _, [], _ :: _, h, _ => by cases h
  | [], _ :: _, [], _, h => by cases h
  | [], _ :: _, _ :: _, _, _ => rfl
  | _ :: _, _ :: _, [], _, h => by cases h
  | a :: s, b :: t, c :: u, h1, h2 => by
    by_cases e : a = b
    · subst e
      by_cases e2 : a = c
      · subst e2; simp [lexL] at *; exact lexL_tra s t u h1 h2
      · simp [lexL, e2] at h2 ⊢; exact h2
    · by_cases e2 : b = c
      · subst e2; simp [lexL, e] at h1 ⊢; exact h1
      · have e3 : a ≠ c := by
          intro e3; subst e3; simp [lexL, e, e2] at h1 h2; omega
        simp [lexL, e, e2] at h1 h2; simp [lexL, e3]; omega
theorem ltA_lex (d e : List UInt8) (i : Nat) (h1 : i ≤ d.length) (h2 : i ≤ e.length) : ltA d e i = lexL (d.drop i) (e.drop i) := by
  by_cases g1 : i < d.length
  · by_cases g2 : i < e.length
    · have hd : d.drop i = d[i] :: d.drop (i + 1) := List.drop_eq_getElem_cons g1
      have he : e.drop i = e[i] :: e.drop (i + 1) := List.drop_eq_getElem_cons g2
      have bd : bt d i = (d[i].toNat : Int) := by simp [bt, g1]
      have be : bt e i = (e[i].toNat : Int) := by simp [bt, g2]
      rw [hd, he]
      by_cases g : d[i] = e[i]
      · rw [ltA_on g1 g2 (by rw [bd, be, g]), ltA_lex d e (i + 1) g1 g2]; simp [lexL, g]
      · have hne := u8_ne g
        rw [ltA_off g1 g2 (by rw [bd, be]; omega), bd, be]; simp [lexL, g]
    · rw [ltA_end (by omega), List.drop_eq_nil_of_le (Nat.not_lt.1 g2), List.drop_eq_getElem_cons g1]; simp [lexL]; omega
  · rw [ltA_end (by omega), List.drop_eq_nil_of_le (Nat.not_lt.1 g1)]
    by_cases g2 : i < e.length
    · rw [List.drop_eq_getElem_cons g2]; simp [lexL]; omega
    · rw [List.drop_eq_nil_of_le (Nat.not_lt.1 g2)]; simp [lexL]; omega
termination_by d.length - i
theorem ltM_iff (d : List UInt8) (x : Int) (e : List UInt8) (y : Int) : ltM d x e y = true ↔ (x + d.length < y + e.length ∨ (x + d.length = y + e.length ∧ lexL d e = true)) := by
  unfold ltM
  split
  · rename_i h; rw [ltA_lex d e 0 (Nat.zero_le _) (Nat.zero_le _)]; simp only [List.drop_zero]
    exact ⟨fun h2 => Or.inr ⟨h, h2⟩, fun h2 => h2.elim (fun h3 => by omega) (fun h3 => h3.2)⟩
  · rename_i h; rw [decide_eq_true_eq]
    exact ⟨Or.inl, fun h2 => h2.elim id (fun h3 => absurd h3.1 h)⟩
theorem ltM_asym {d e : List UInt8} {x y : Int} (h : ltM d x e y = true) : ltM e y d x = false := by
  rw [ltM_iff] at h
  rw [Bool.eq_false_iff]
  intro h2
  rw [ltM_iff] at h2
  rcases h with h | ⟨h, hl⟩
  · rcases h2 with h2 | ⟨h2, _⟩ <;> omega
  · rcases h2 with h2 | ⟨h2, hl2⟩
    · omega
    · rw [lexL_asym _ _ hl] at hl2; cases hl2
theorem ltM_tot {d e : List UInt8} {x y : Int} (h : ¬ (d = e ∧ x = y)) : ltM d x e y = true ∨ ltM e y d x = true := by
  rw [ltM_iff, ltM_iff]
  by_cases h1 : x + d.length = y + e.length
  · have hne : d ≠ e := fun e1 => h ⟨e1, by subst e1; omega⟩
    rcases lexL_tot d e hne with h2 | h2
    · exact Or.inl (Or.inr ⟨h1, h2⟩)
    · exact Or.inr (Or.inr ⟨h1.symm, h2⟩)
  · omega
theorem ltM_tra {d e f : List UInt8} {x y z : Int} (h1 : ltM d x e y = true) (h2 : ltM e y f z = true) : ltM d x f z = true := by
  rw [ltM_iff] at *
  rcases h1 with h1 | ⟨h1, l1⟩ <;> rcases h2 with h2 | ⟨h2, l2⟩
  · left; omega
  · left; omega
  · left; omega
  · right; exact ⟨by omega, lexL_tra _ _ _ l1 l2⟩
theorem rd_nought : rd [48] = ([48], 0) := by
  have n48 : ∀ x ∈ ([48] : List UInt8), nb x = true := by intro x hx; rw [List.mem_singleton.1 hx]; rfl
  have e0 : q0 [48] = 0 := by simp [q0, bt]
  have e1 : q1 [48] = 1 := by unfold q1; rw [e0]; exact runE_app [48] [] [] n48 rfl
  have b1 : bt [48] 1 = 0 := rfl
  have hb : bad1 [48] = false := by unfold bad1; rw [e0, e1]; simp
  have hd : dot [48] = false := by unfold dot; rw [e1, b1]; rfl
  have e2 : q2 [48] = 1 := by unfold q2; rw [hd, e1]; rfl
  have e3 : q3 [48] = 1 := by unfold q3; rw [hd, e1]; rfl
  have hx : exq [48] = false := by unfold exq; rw [e3, b1]; rfl
  have e4 : q4 [48] = 1 := by unfold q4; rw [hx, e3]; rfl
  have e5 : q5 [48] = 1 := by unfold q5; rw [hx, e3]; rfl
  have his : isB [48] = true := by unfold isB; rw [hb, hd, hx, e5]; rfl
  have hp : powR [48] (q4 [48]) (q5 [48]) = (0, true) := by rw [e4, e5]; unfold powR; rw [powA_end (by omega)]; simp
  have hD : rdD [48] = [48] := by unfold rdD; rw [e0, e1, e2, e3]; rfl
  have hT : rdT [48] = [] := by
    unfold rdT; rw [hD, trimR_on (by simp) rfl]
    rw [show ([48] : List UInt8).take (([48] : List UInt8).length - 1) = [] from rfl, trimR_end (by simp), trimL_end (by simp)]
  exact rd_zero his (by rw [hp]) hT
theorem norm_nought : norm [48] = true := by unfold norm; rw [rd_nought]; rfl
theorem norm_shape {l : List UInt8} (h : norm l = true) : l = [48] ∨ ∃ m T N, l = mk m T N ∧ Fine T ∧ -1000000000 ≤ N ∧ N ≤ 1000000000 := by
  unfold norm at h
  simp at h
  have := rd_shape h.1
  rw [h.2] at this
  exact this
/-- Read's text is its own normal form. -/
theorem norm_rd {l : List UInt8} (h : (rd l).2 = 0) : norm (rd l).1 = true := by
  rcases rd_shape h with e | ⟨m, T, N, e, hT, h1, h2⟩
  · rw [e]; exact norm_nought
  · rw [e]; exact (rd_mk m N hT h1 h2).2.1
theorem Fine.ne {T : List UInt8} (h : Fine T) : T ≠ [48] := fun e => h.first (by rw [e]; rfl)
theorem norm_unlike {l : List UInt8} (h : norm l = true) : ptD l = [48] ↔ l = [48] := by
  rcases norm_shape h with e | ⟨m, T, N, e, hT, h1, h2⟩
  · subst e; unfold ptD; simp [norm_nought]
  · have R := rd_mk m N hT h1 h2
    rw [← e] at R
    exact ⟨fun h3 => absurd (R.2.2.2.2.1 ▸ h3) hT.ne, fun h3 => absurd h3 R.2.2.1⟩
/-- The parts tell the text. -/
theorem norm_inj {a b : List UInt8} (ha : norm a = true) (hb : norm b = true) (hM : ptM a = ptM b) (hD : ptD a = ptD b) (hX : ptX a = ptX b) : a = b := by
  rcases norm_shape ha with e | ⟨m, T, N, e, hT, h1, h2⟩
  · have := (norm_unlike ha).2 e
    rw [hD] at this
    rw [e, (norm_unlike hb).1 this]
  · have R := rd_mk m N hT h1 h2
    rw [← e] at R
    rcases norm_shape hb with e' | ⟨m', T', N', e', hT', h1', h2'⟩
    · have := (norm_unlike hb).2 e'
      rw [← hD] at this
      exact absurd ((norm_unlike ha).1 this) R.2.2.1
    · have R' := rd_mk m' N' hT' h1' h2'
      rw [← e'] at R'
      have m1 := R.2.2.2.1.symm.trans (hM.trans R'.2.2.2.1)
      have m2 := R.2.2.2.2.1.symm.trans (hD.trans R'.2.2.2.2.1)
      have m3 := R.2.2.2.2.2.symm.trans (hX.trans R'.2.2.2.2.2)
      rw [e, e', m1, m2, m3]
end Go.Proofs.YtbeefjhcbphiaaaGreatDoor.De
