/- A normal form read again. -/
import Derived.Test.YthjlnafmpcppfaaGreatDoorNorm
namespace Go.Proofs.YthjlnafmpcppfaaGreatDoor
open Go.RowKit

def sg (m : Bool) : List UInt8 := if m = true then [45] else []
def mk (m : Bool) (T : List UInt8) (N : Int) : List UInt8 := sg m ++ T ++ [101] ++ itoL N
theorem itoL_sg (N : Int) : itoL N = sg (decide (N < 0)) ++ itoN N.natAbs := by
  unfold itoL sg
  by_cases h : N < 0
  · rw [if_pos h, if_pos (by simp [h]), show (-N).toNat = N.natAbs by omega]; rfl
  · rw [if_neg h, if_neg (by simp [h]), show N.toNat = N.natAbs by omega]; rfl
theorem bt_head {T : List UInt8} (h : ∀ x ∈ T, nb x = true) (hne : T ≠ []) : 48 ≤ bt T 0 ∧ bt T 0 ≤ 57 := by
  cases T with
  | nil => exact absurd rfl hne
  | cons x T => rw [bt_cons]; exact nb_range (h x (by simp))
structure Parse (l : List UInt8) (m : Bool) (T : List UInt8) (N : Int) : Prop where
  e0 : q0 l = (sg m).length
  e1 : q1 l = (sg m).length + T.length
  e2 : q2 l = q1 l
  e3 : q3 l = q1 l
  is : isB l = true
  pow : powR l (q4 l) (q5 l) = (N, true)
  neg : (bt l 0 = 45) ↔ m = true
theorem mk_parse (m : Bool) (T : List UInt8) (N : Int) (hT : ∀ x ∈ T, nb x = true) (hne : T ≠ []) (hh : bt T 0 ≠ 48) (hN1 : -1000000000 ≤ N) (hN2 : N ≤ 1000000000) : Parse (mk m T N) m T N := by
  obtain ⟨d1, d2, d3⟩ := itoN_spec N.natAbs
  have hTh := bt_head hT hne
  have hDh := bt_head d1 d3
  have hTl : 0 < T.length := List.length_pos_iff.2 hne
  have hDl : 0 < (itoN N.natAbs).length := List.length_pos_iff.2 d3
  obtain ⟨l, hl⟩ : ∃ l, l = mk m T N := ⟨_, rfl⟩
  rw [← hl]
  have f1 : l = sg m ++ (T ++ ([101] ++ itoL N)) := by rw [hl]; simp [mk]
  have f2 : l = (sg m ++ T) ++ ([101] ++ itoL N) := by rw [hl]; simp [mk]
  have f3 : l = (sg m ++ T ++ [101]) ++ itoL N := by rw [hl]; simp [mk]
  have f4 : l = (sg m ++ T ++ [101] ++ sg (decide (N < 0))) ++ (itoN N.natAbs ++ []) := by rw [hl, mk, itoL_sg]; simp
  have b0 : bt l (sg m).length = bt T 0 := by
    rw [f1, bt_app, bt_app_lt _ hTl]
  have hneg : (bt l 0 = 45) ↔ m = true := by
    cases m
    · have : bt l 0 = bt T 0 := b0
      rw [this]; simp; omega
    · rw [f1]; simp [sg, bt]
  have e0 : q0 l = (sg m).length := by
    unfold q0
    cases m
    · rw [if_neg (fun h => by simpa using hneg.1 h)]; rfl
    · rw [if_pos (hneg.2 rfl)]; rfl
  have h101 : bt ([101] ++ itoL N) 0 = 101 := bt_cons 101 _
  have e1 : q1 l = (sg m).length + T.length := by
    unfold q1; rw [e0, f1]; exact runE_app T _ _ hT (by rw [h101]; rfl)
  have b1 : bt l (q1 l) = 101 := by rw [e1, ← List.length_append]; conv => lhs; rw [f2]
                                    rw [bt_app, h101]
  have hbad : bad1 l = false := by
    unfold bad1; rw [e0, b0, e1]; simp; constructor
    · omega
    · intro h; exact absurd h hh
  have hdot : dot l = false := by unfold dot; rw [b1]; rfl
  have e2 : q2 l = q1 l := by unfold q2; rw [hdot]; rfl
  have e3 : q3 l = q1 l := by unfold q3; rw [hdot]; rfl
  have hexq : exq l = true := by unfold exq; rw [e3, b1]; rfl
  have b2 : bt l (q1 l + 1) = bt (itoL N) 0 := by
    rw [e1, show (sg m).length + T.length + 1 = (sg m ++ T ++ [101]).length by simp; omega]; conv => lhs; rw [f3]
    rw [bt_app]
  have hsgn : sgn l = decide (N < 0) := by
    unfold sgn; rw [e3, b2]
    unfold itoL; split
    · rename_i h; rw [bt_cons]; simp [h]
    · rename_i h
      rw [show N.toNat = N.natAbs by omega]
      simp [h]; omega
  have e4 : q4 l = (sg m ++ T ++ [101] ++ sg (decide (N < 0))).length := by
    unfold q4; rw [hexq, hsgn, e3, e1]
    by_cases h : N < 0 <;> simp [h, sg] <;> omega
  have e5 : q5 l = q4 l + (itoN N.natAbs).length := by
    unfold q5; rw [hexq, e4]; simp only [if_true]; conv => lhs; rw [f4]
    exact runE_app _ _ _ d1 rfl
  have hlen : q5 l = l.length := by rw [e5, e4]; conv => rhs; rw [f4]
                                    simp; omega
  have his : isB l = true := by
    unfold isB; rw [hbad, hdot, hlen, hexq]
    have : l.length ≠ q4 l := by rw [← hlen, e5]; omega
    simp [this]
  have hpow : powR l (q4 l) (q5 l) = (N, true) := by
    have hp : powA l (q5 l) (q4 l) 0 = some (val (itoN N.natAbs) 0) := by
      rw [e5, e4]; conv => lhs; rw [f4, List.append_nil]
      exact powA_val _ _ 0 d1 (by omega) (by rw [d2]; omega)
    unfold powR
    rw [hp, d2]
    simp only []
    have hlt : q4 l < q5 l := by omega
    by_cases h : N < 0
    · have : bt l (q4 l - 1) = 45 := by
        have e : q4 l - 1 = (sg m ++ T ++ [101]).length := by rw [e4]; simp [h, sg]
        rw [e, f3, bt_app, itoL_sg]; simp [h, sg, bt]
      rw [if_pos ⟨hlt, this⟩]; congr 1; omega
    · have : bt l (q4 l - 1) = 101 := by
        have e : q4 l - 1 = (sg m ++ T).length := by rw [e4]; simp [h, sg]
        rw [e, f2, bt_app, h101]
      rw [if_neg (fun h => by omega)]; congr 1; omega
  exact ⟨e0, e1, e2, e3, his, hpow, hneg⟩
/-- What is a normal form's numerals. -/
structure Fine (T : List UInt8) : Prop where
  nums : ∀ x ∈ T, nb x = true
  some : T ≠ []
  first : bt T 0 ≠ 48
  last : bt T (T.length - 1) ≠ 48
theorem rd_mk (m : Bool) {T : List UInt8} (N : Int) (hT : Fine T) (hN1 : -1000000000 ≤ N) (hN2 : N ≤ 1000000000) :
    rd (mk m T N) = (mk m T N, 0) ∧ norm (mk m T N) = true ∧ mk m T N ≠ [48] ∧ ptM (mk m T N) = m ∧ ptD (mk m T N) = T ∧ ptX (mk m T N) = N := by
  have P := mk_parse m T N hT.nums hT.some hT.first hN1 hN2
  have hTl : 0 < T.length := List.length_pos_iff.2 hT.some
  have hcut : ((mk m T N).take (q1 (mk m T N))).drop (q0 (mk m T N)) = T := by
    rw [P.e0, P.e1, ← List.length_append, show mk m T N = (sg m ++ T) ++ ([101] ++ itoL N) by simp [mk], List.take_left, List.drop_left]
  have hD : rdD (mk m T N) = T := by
    unfold rdD; rw [hcut, P.e2, P.e3]; simp
  have hR : trimR (rdD (mk m T N)) = T := by rw [hD]; exact trimR_end (fun h => hT.last h.2)
  have hT' : rdT (mk m T N) = T := by unfold rdT; rw [hR]; exact trimL_end (fun h => hT.first h.2)
  have hN : rdN (mk m T N) = N := by unfold rdN; rw [hR, hD, P.pow, P.e2, P.e3]; simp
  have h48 : mk m T N ≠ [48] := by
    intro h
    have := congrArg List.length h
    simp [mk] at this
    have := List.length_pos_iff.2 (itoN_spec N.natAbs).2.2
    have e := itoL_sg N
    have := congrArg List.length e
    simp at this; omega
  have hr : rd (mk m T N) = (mk m T N, 0) := by
    rw [rd_ok P.is (by rw [P.pow]) (by rw [hT']; exact hT.some) (by rw [hN]; omega), hT', hN]
    have e : (if bt (mk m T N) 0 = 45 then [(45 : UInt8)] else []) = sg m := by
      unfold sg
      by_cases h : m = true
      · rw [if_pos (P.neg.2 h), if_pos h]
      · rw [if_neg (fun h2 => h (P.neg.1 h2)), if_neg h]
    rw [e]; rfl
  have hn : norm (mk m T N) = true := by unfold norm; rw [hr]; simp
  refine ⟨hr, hn, h48, ?_, ?_, ?_⟩
  · unfold ptM; rw [hn]
    cases m
    · simp; intro _ h; exact absurd (P.neg.1 h) (by simp)
    · simp [h48, P.neg.2 rfl]
  · unfold ptD; rw [if_neg (by rw [hn]; simp), if_neg h48, hcut]
  · unfold ptX; rw [if_neg (fun h => h.elim (by rw [hn]; simp) h48), P.pow]
theorem nb_of_runE {l : List UInt8} {i : Nat} : ∀ x ∈ (l.take (runE l i)).drop i, nb x = true := by
  intro x hx
  obtain ⟨k, hk, rfl⟩ := List.mem_iff_getElem.1 hx
  simp at hk
  have := runE_nmr l i (i + k) (by omega) (by omega)
  unfold nb
  simpa [bt, show i + k < l.length by omega] using this
theorem rdD_nb (l : List UInt8) : ∀ x ∈ rdD l, nb x = true := by
  intro x hx
  unfold rdD at hx
  rcases List.mem_append.1 hx with h | h
  · exact nb_of_runE x h
  · unfold q3 at h; split at h
    · exact nb_of_runE x h
    · have : q1 l ≤ q2 l := (q_order (l := l)).2.1
      have e : (l.take (q1 l)).drop (q2 l) = [] := List.drop_eq_nil_of_le (by simp; omega)
      rw [e] at h; exact absurd h (by simp)
theorem trimR_spec (d : List UInt8) : (∀ x ∈ trimR d, x ∈ d) ∧ (trimR d ≠ [] → bt (trimR d) ((trimR d).length - 1) ≠ 48) := by
  by_cases h : 0 < d.length ∧ bt d (d.length - 1) = 48
  · rw [trimR_on h.1 h.2]
    have := trimR_spec (d.take (d.length - 1))
    exact ⟨fun x hx => List.mem_of_mem_take (this.1 x hx), this.2⟩
  · rw [trimR_end h]
    exact ⟨fun x hx => hx, fun hne h2 => h ⟨List.length_pos_iff.2 hne, h2⟩⟩
termination_by d.length
decreasing_by simp; omega
theorem trimL_spec (d : List UInt8) : (∀ x ∈ trimL d, x ∈ d) ∧ (trimL d ≠ [] → bt (trimL d) 0 ≠ 48 ∧ bt (trimL d) ((trimL d).length - 1) = bt d (d.length - 1)) := by
  by_cases h : 0 < d.length ∧ bt d 0 = 48
  · rw [trimL_on h.1 h.2]
    have := trimL_spec (d.drop 1)
    refine ⟨fun x hx => List.mem_of_mem_drop (this.1 x hx), fun hne => ⟨(this.2 hne).1, ?_⟩⟩
    rw [(this.2 hne).2, bt_drop]
    have h2 : 0 < (d.drop 1).length := by
      rcases Nat.eq_zero_or_pos (d.drop 1).length with h3 | h3
      · have e := List.length_eq_zero_iff.1 h3
        have := trimL_len (d.drop 1)
        exact absurd (List.length_eq_zero_iff.1 (by omega)) hne
      · exact h3
    congr 1; simp at h2 ⊢; omega
  · rw [trimL_end h]
    exact ⟨fun x hx => hx, fun hne => ⟨fun h2 => h ⟨List.length_pos_iff.2 hne, h2⟩, rfl⟩⟩
termination_by d.length
decreasing_by simp; omega
theorem rdT_fine {l : List UInt8} (h : rdT l ≠ []) : Fine (rdT l) := by
  have hL := trimL_spec (trimR (rdD l))
  have hR := trimR_spec (rdD l)
  have h2 : trimR (rdD l) ≠ [] := by
    intro e
    unfold rdT at h; rw [e] at h
    exact h (trimL_end (by simp))
  exact ⟨fun x hx => rdD_nb l x (hR.1 x (hL.1 x hx)), h, (hL.2 h).1, by unfold rdT; rw [(hL.2 h).2]; exact hR.2 h2⟩
/-- What Read's text is where there is one. -/
theorem rd_shape {l : List UInt8} (h : (rd l).2 = 0) : (rd l).1 = [48] ∨ ∃ m T N, (rd l).1 = mk m T N ∧ Fine T ∧ -1000000000 ≤ N ∧ N ≤ 1000000000 := by
  cases h1 : isB l
  · rw [rd_syntax h1] at h; simp at h
  · cases h2 : (powR l (q4 l) (q5 l)).2
    · rw [rd_exp h1 h2] at h; simp at h
    · by_cases h3 : rdT l = []
      · left; rw [rd_zero h1 h2 h3]
      · by_cases h4 : rdN l > 1000000000 ∨ rdN l < -1000000000
        · rw [rd_far h1 h2 h3 h4] at h; simp at h
        · right
          refine ⟨decide (bt l 0 = 45), rdT l, rdN l, ?_, rdT_fine h3, by omega, by omega⟩
          rw [rd_ok h1 h2 h3 h4]
          simp [mk, sg]
end Go.Proofs.YthjlnafmpcppfaaGreatDoor
