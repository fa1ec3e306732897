/- JSON documents as lists: a value's span alone is parsed as that value: well-formed bytes, cut at tokens, are well-formed. -/
import Derived.Test.YtdclhepjoifpiaaGreatDoorKqm
import Derived.Test.YtdclhepjoifpiaaGreatDoorKwm
namespace Go.Proofs.YtdclhepjoifpiaaGreatDoor
open Go.RowKit
namespace Jt
open Jk (tks nx TK tk_of tk_len tks_tok tks_bad tks_end)
open U8 (lng scn bhd wth lo1 hi1)

theorem lo1_ge (c : Int) : 128 ≤ lo1 c := by unfold lo1; repeat' split
                                             all_goals omega
/-- What stands behind a rune's first byte. -/
theorem lng_cont {l : Bs} {k : Nat} (h1 : 1 ≤ k) (h2 : k < lng l) : 128 ≤ bt l k := by
  have key : ∀ {c a g : Int}, wth c a g = true → 128 ≤ a → 128 ≤ c := fun h ha => by have := U8.wth_true h; omega
  have hl := lo1_ge (bt l 0)
  unfold lng at h2
  split at h2
  · omega
  · split at h2
    · omega
    · split at h2
      · split at h2
        · rename_i h
          obtain rfl : k = 1 := by omega
          exact key h.2 hl
        · omega
      · split at h2
        · split at h2
          · rename_i h
            rcases (show k = 1 ∨ k = 2 by omega) with rfl | rfl
            · exact key h.2.1 hl
            · exact key h.2.2 (by omega)
          · omega
        · split at h2
          · split at h2
            · rename_i h
              rcases (show k = 1 ∨ k = 2 ∨ k = 3 by omega) with rfl | rfl | rfl
              · exact key h.2.1 hl
              · exact key h.2.2.1 (by omega)
              · exact key h.2.2.2 (by omega)
            · omega
          · omega
theorem lng_take {l : Bs} {p : Nat} (h0 : lng l ≠ 0) (hp : lng l ≤ p) : lng (l.take p) = lng l := by
  have hll := U8.lng_le l
  have hlen : (l.take p).length = min p l.length := List.length_take
  have b0 : bt (l.take p) 0 = bt l 0 := bt_take l (by omega)
  have bk : ∀ k, k < lng l → bt (l.take p) k = bt l k := fun k hk => bt_take l (by omega)
  obtain ⟨n, hn⟩ : ∃ n, n = lng l := ⟨_, rfl⟩
  rw [← hn] at h0 hp hll bk ⊢
  unfold lng at hn ⊢
  rw [b0]
  split at hn
  · omega
  · rw [if_neg (by omega)]
    split at hn
    · rw [if_pos (by assumption)]; omega
    · rw [if_neg (by assumption)]
      split at hn
      · rw [if_pos (by assumption)]
        split at hn
        · rename_i h
          rw [bk 1 (by omega), if_pos ⟨by omega, h.2⟩, hn]
        · omega
      · rw [if_neg (by assumption)]
        split at hn
        · rw [if_pos (by assumption)]
          split at hn
          · rename_i h
            rw [bk 1 (by omega), bk 2 (by omega), if_pos ⟨by omega, h.2⟩, hn]
          · omega
        · rw [if_neg (by assumption)]
          split at hn
          · rw [if_pos (by assumption)]
            split at hn
            · rename_i h
              rw [bk 1 (by omega), bk 2 (by omega), bk 3 (by omega), if_pos ⟨by omega, h.2⟩, hn]
            · omega
          · omega
/-- A place at which a rune may begin. -/
def Bnd (l : Bs) (p : Nat) : Prop := p = l.length ∨ (p < l.length ∧ bt l p < 128)
theorem Bnd.le {l : Bs} {p : Nat} (h : Bnd l p) : p ≤ l.length := by rcases h with h | h <;> omega
theorem Bnd.far {l : Bs} {p : Nat} (h : Bnd l p) (h0 : 0 < p) : lng l ≤ p := by
  have hll := U8.lng_le l
  rcases h with h | ⟨h1, h2⟩
  · omega
  · rcases Nat.lt_or_ge p (lng l) with h3 | h3
    · have := lng_cont (l := l) h0 h3; omega
    · exact h3
theorem Bnd.drop {l : Bs} {p n : Nat} (h : Bnd l p) (hn : n ≤ p) : Bnd (l.drop n) (p - n) := by
  rcases h with h | ⟨h1, h2⟩
  · left; rw [List.length_drop]; omega
  · right
    rw [List.length_drop, bt_drop, show n + (p - n) = p by omega]
    exact ⟨by omega, h2⟩
theorem scn_cut : ∀ (m : Nat) (l : Bs) (p : Nat), l.length ≤ m → scn l = l.length → Bnd l p → scn (l.drop p) = (l.drop p).length ∧ scn (l.take p) = (l.take p).length := by
  intro m
  induction m with
  | zero =>
    intro l p hl hs hp
    cases l with
    | nil => rw [List.drop_nil, List.take_nil]; exact ⟨U8.scn_stop U8.lng_nil, U8.scn_stop U8.lng_nil⟩
    | cons c r => simp at hl
  | succ m ih =>
    intro l p hl hs hp
    have hple := hp.le
    rcases Nat.eq_zero_or_pos p with rfl | h0
    · rw [List.drop_zero, List.take_zero]; exact ⟨hs, U8.scn_stop U8.lng_nil⟩
    · have hn0 : lng l ≠ 0 := fun e => by rw [U8.scn_stop e] at hs; omega
      have hnp := hp.far h0
      rw [U8.scn_step hn0] at hs
      obtain ⟨q1, q2⟩ := ih (l.drop (lng l)) (p - lng l) (by rw [List.length_drop]; omega) (by rw [List.length_drop]; omega) (hp.drop hnp)
      rw [List.drop_drop, show lng l + (p - lng l) = p by omega] at q1
      refine ⟨q1, ?_⟩
      have ht := lng_take hn0 hnp
      rw [U8.scn_step (by rw [ht]; exact hn0), ht, List.drop_take, q2, List.length_take, List.length_take, List.length_drop]
      omega
theorem chk_part {l : Bs} {a b : Nat} (h : U8.chkOk l = true) (ha : Bnd l a) (hb : Bnd l b) (hab : a ≤ b) : U8.chkOk (part l (a, b)) = true := by
  have hs : scn l = l.length := of_decide_eq_true h
  have h1 := (scn_cut _ l b (Nat.le_refl _) hs hb).2
  have hble := hb.le
  have ha' : Bnd (l.take b) a := by
    rcases Nat.lt_or_ge a b with h2 | h2
    · right
      rcases ha with h3 | ⟨h3, h4⟩
      · omega
      · rw [List.length_take, bt_take l h2]; exact ⟨by omega, h4⟩
    · left; rw [List.length_take]; omega
  exact decide_eq_true (scn_cut _ (l.take b) a (Nat.le_refl _) h1 ha').1
theorem tk_first {l : Bs} {k n : Nat} (h : TK l k n) : bt l 0 < 128 := by
  cases h with
  | space h => have := Jk.spc_v.1 h; omega
  | mark h => have := Jk.mrk_v.1 h; omega
  | word h => have := Jk.ltr_v.1 h; omega
  | num h _ =>
    rcases h with h | h
    · omega
    · have := Jk.dg_iff.1 h; omega
  | str n h => omega
theorem tks_bnd {l : Bs} : ∀ (m i : Nat), l.length - i ≤ m → i ≤ l.length → (tks l i).2 = none → Bnd l i ∧ ∀ t ∈ (tks l i).1, Bnd l t.2.1 ∧ Bnd l t.2.2 := by
  intro m
  induction m with
  | zero => intro i hi hl _; rw [tks_end (by omega)]; exact ⟨.inl (by omega), fun t ht => by cases ht⟩
  | succ m ih =>
    intro i hi hl h
    by_cases hlt : i < l.length
    · cases hx : nx (l.drop i) with
      | bad n => rw [tks_bad hlt hx] at h; cases h
      | tok k n =>
        have hk := tk_of hx
        have hn := tk_len hk
        rw [List.length_drop] at hn
        have hf := tk_first hk
        rw [bt_drop, Nat.add_zero] at hf
        rw [tks_tok hk] at h ⊢
        obtain ⟨b1, b2⟩ := ih (i + n) (by omega) (by omega) h
        refine ⟨.inr ⟨hlt, hf⟩, fun t ht => ?_⟩
        rcases List.mem_cons.1 ht with rfl | ht
        · exact ⟨.inr ⟨hlt, hf⟩, b1⟩
        · exact b2 t ht
    · rw [tks_end (by omega)]; exact ⟨.inl (by omega), fun t ht => by cases ht⟩
/-- A document that is parsed: its tree; and each value's span is a document, of that value. -/
theorem parse_span {l : Bs} {nd : List Nd} (h : parseR l = .ok nd) : ∃ v : JV, nd = v.nds 0 ∧ v.dep ≤ 257 ∧ ∃ f, pv (envL l (enOf l)) f 0 (sol l) = .ok v [] ∧
    ∀ (i : Nat) (u : JV), v.at_ i = some u → u.span.1 < u.span.2 ∧ u.span.2 ≤ l.length ∧ ∃ u' : JV, parseR (part l u.span) = .ok (u'.nds 0) ∧ u'.up u.span.1 = u := by
  unfold parseR at h
  by_cases hc : U8.chkOk l = true
  · rw [if_pos hc, docP_doc] at h
    unfold doc at h
    cases hp : pv (envL l (enOf l)) (2 * (sol l).length + 2) 0 (sol l) with
    | out => rw [hp] at h; cases h
    | bad c a => rw [hp] at h; cases h
    | ok v r =>
      rw [hp] at h
      cases r with
      | cons t r => cases h
      | nil =>
        cases hf : (tks l 0).2 with
        | some a => rw [hf] at h; cases h
        | none =>
          rw [hf] at h
          simp only at h
          injection h with h
          have hdep := pv_dep _ _ _ _ _ hp (by omega)
          refine ⟨v, h.symm, by omega, _, hp, fun i u hu => ?_⟩
          obtain ⟨f', d', pre, T', r', q1, q2, q3⟩ := pv_at _ _ _ _ _ i u hp (by omega) hu
          obtain ⟨s1, s2, s3, u', s4, s5⟩ := span_alone (E := envL l (enOf l)) (E' := envL (part l u.span) (enOf (part l u.span))) q3 q1 q2 rfl rfl rfl
          obtain ⟨t, z, seg, hz, hT, hsp⟩ := pv_span q1 q2
          have hb := (tks_bnd (l := l) _ 0 (Nat.le_refl _) (Nat.zero_le _) hf).2
          have mem : ∀ x, x ∈ T' → Bnd l x.2.1 ∧ Bnd l x.2.2 := fun x hx => hb x (List.mem_filter.1 (show x ∈ sol l by rw [q3]; exact List.mem_append_right _ hx)).1
          have b1 : Bnd l u.span.1 := by rw [hsp]; exact (mem t (by rw [hT]; simp)).1
          have b2 : Bnd l u.span.2 := by
            rw [hsp]
            refine (mem z ?_).2
            rw [hT]
            rcases hz with e | ⟨s, e⟩ <;> rw [e] <;> simp
          have hck := chk_part hc b1 b2 (Nat.le_of_lt s1)
          refine ⟨s1, s2, u', ?_, s5⟩
          unfold parseR
          rw [if_pos (show U8.chkOk (part l u.span) = true from hck), docP_doc]
          have e2 : (tks (part l u.span) 0).2 = none := s3
          rw [e2]
          have e3 : doc (envL (part l u.span) (enOf (part l u.span))) none (sol (part l u.span)) = .ok u' := s4
          rw [e3]
  · rw [if_neg hc] at h; cases h
end Jt
end Go.Proofs.YtdclhepjoifpiaaGreatDoor
