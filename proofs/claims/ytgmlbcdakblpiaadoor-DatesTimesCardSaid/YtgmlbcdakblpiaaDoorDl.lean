/- Date-times as lists: a text is its parts put together; what is read is read again; beginnings. -/
import Derived.Test.YtgmlbcdakblpiaaDoorDn
namespace Go.Proofs.YtgmlbcdakblpiaaDoor
open Go.RowKit
namespace Da

theorem hT_clk {l : List UInt8} (h : hT l = true) : clk l (tp l) = true := by
  unfold hT at h
  unfold tp
  cases hd : dte l
  · rw [hd, if_neg (by simp)] at h
    rw [if_neg (by simp)]; exact h
  · rw [hd, if_pos rfl] at h
    rw [if_pos rfl]
    simp only [Bool.and_eq_true] at h
    exact h.2
theorem en_le (l : List UInt8) : en l ≤ l.length := by
  unfold en
  split
  · rename_i h
    have h1 := clk_in (hT_clk h)
    have h2 := frc_in (l := l) (i := tp l + 8) h1
    have h3 : tp l + 8 + nF l ≤ l.length := by rw [nF, if_pos h]; exact h2
    have h4 := zn_in h3
    unfold nZ
    split <;> omega
  · split
    · rename_i h; exact dte_in h
    · omega
theorem pD_len {l : List UInt8} (h : dte l = true) : (pD l).length = 10 := by
  have := dte_in h
  rw [pD, if_pos h, List.length_take]; omega
theorem pT_len {l : List UInt8} (h : hT l = true) : (pT l).length = 8 := by
  have := clk_in (hT_clk h)
  rw [pT, if_pos h, List.length_take, List.length_drop]; omega
theorem pF_len (l : List UInt8) : (pF l).length = nF l := by
  rw [pF, List.length_take, List.length_drop]
  by_cases h : hT l = true
  · have h2 := frc_in (l := l) (i := tp l + 8) (clk_in (hT_clk h))
    have : nF l = frc l (tp l + 8) := by rw [nF, if_pos h]
    omega
  · have : nF l = 0 := by rw [nF, if_neg h]
    omega
theorem pZ_len (l : List UInt8) : (pZ l).length = nZ l := by
  rw [pZ, List.length_take, List.length_drop]
  by_cases h : dte l = true ∧ hT l = true
  · have h2 := frc_in (l := l) (i := tp l + 8) (clk_in (hT_clk h.2))
    have h3 : nF l = frc l (tp l + 8) := by rw [nF, if_pos h.2]
    have h4 := zn_in (l := l) (i := tp l + 8 + nF l) (by omega)
    have : nZ l = zn l (tp l + 8 + nF l) := by rw [nZ, if_pos h]
    omega
  · have : nZ l = 0 := by rw [nZ, if_neg h]
    omega
theorem pF_ft {l : List UInt8} (h : pF l ≠ []) : hT l = true ∧ ft (pF l) := by
  have hl := List.length_pos_iff.2 h
  rw [pF_len] at hl
  have hh : hT l = true := by
    cases g : hT l
    · rw [nF, g, if_neg (by simp)] at hl; omega
    · rfl
  refine ⟨hh, ?_⟩
  have h3 : nF l = frc l (tp l + 8) := by rw [nF, if_pos hh]
  have h5 := hl
  rw [h3, frc] at hl
  split at hl
  · rename_i hc
    have h4 : nF l = run (l.drop (tp l + 8 + 1)) + 1 := by rw [h3, frc, if_pos hc]
    have hin : tp l + 8 < l.length := bt_in (by rw [hc.1]; decide)
    refine ⟨(l.drop (tp l + 8 + 1)).take (run (l.drop (tp l + 8 + 1))), ?_, ?_, run_all⟩
    · have h6 := run_at (l := l) (k := tp l + 8 + 1)
      rw [hc.2, if_pos rfl] at h6
      have h7 := dd_in hc.2
      intro e
      have := congrArg List.length e
      rw [List.length_take, List.length_drop, List.length_nil] at this
      omega
    · rw [pF, h4, List.drop_eq_getElem_cons hin, List.take_succ_cons]
      congr 1
      have : bt l (tp l + 8) = ((l[tp l + 8]).toNat : Int) := by simp [bt, hin]
      exact UInt8.toNat_inj.1 (by rw [this] at hc; have := hc.1; show _ = 46; omega)
  · omega
theorem pZ_zt {l : List UInt8} (h : pZ l ≠ []) : dte l = true ∧ hT l = true ∧ zt (pZ l) := by
  have hl := List.length_pos_iff.2 h
  have hz := pZ_len l
  rw [hz] at hl
  by_cases hc : dte l = true ∧ hT l = true
  · refine ⟨hc.1, hc.2, ?_⟩
    have h3 : nZ l = zn l (tp l + 8 + nF l) := by rw [nZ, if_pos hc]
    have hb : bt (pZ l) 0 = bt l (tp l + 8 + nF l) := by rw [pZ, bt_take _ hl, bt_drop, Nat.add_zero]
    by_cases a : zc (bt l (tp l + 8 + nF l)) = true
    · have : zn l (tp l + 8 + nF l) = 1 := by rw [zn, if_pos a]
      exact .inl ⟨by omega, by rw [hb]; exact a⟩
    · by_cases b : zs l (tp l + 8 + nF l) = true
      · have h6 : zn l (tp l + 8 + nF l) = 6 := by rw [zn, if_neg a, if_pos b]
        refine .inr ⟨by omega, ?_⟩
        rw [pZ, h3, h6, zs_tk (by omega), zs_dr, Nat.add_zero]; exact b
      · have h6 : zn l (tp l + 8 + nF l) = 0 := by rw [zn, if_neg a, if_neg b]
        omega
  · rw [nZ, if_neg hc] at hl; omega
theorem kd_zero {l : List UInt8} (h1 : dte l = false) (h2 : hT l = false) : kd l = 0 := by
  have a : pD l = [] := by rw [pD, h1]; rfl
  have b : pT l = [] := by rw [pT, h2]; rfl
  have c : pZ l = [] := by
    by_cases z : pZ l = []
    · exact z
    · have := (pZ_zt z).1; rw [h1] at this; cases this
  rw [kd, kd4, a, b, c]; rfl
theorem sh_of {l : List UInt8} (h : kd l ≠ 0) : Sh (pD l) (pT l) (pF l) (pZ l) := by
  have hd : pD l ≠ [] → dte l = true := fun g => by
    cases hd : dte l
    · rw [pD, hd] at g; exact absurd rfl g
    · rfl
  have ht : pT l ≠ [] → hT l = true := fun g => by
    cases hd : hT l
    · rw [pT, hd] at g; exact absurd rfl g
    · rfl
  have dn : dte l = true → pD l ≠ [] := fun g e => by have := pD_len g; rw [e] at this; cases this
  have tn : hT l = true → pT l ≠ [] := fun g e => by have := pT_len g; rw [e] at this; cases this
  refine ⟨?_, fun g => ?_, fun g => ?_, fun g => ?_, fun g => ?_⟩
  · cases h1 : dte l
    · cases h2 : hT l
      · exact absurd (kd_zero h1 h2) h
      · exact .inr (tn h2)
    · exact .inl (dn h1)
  · refine ⟨pD_len (hd g), ?_⟩
    rw [pD, if_pos (hd g), dte_tk]; exact hd g
  · refine ⟨pT_len (ht g), ?_⟩
    rw [pT, if_pos (ht g), clk_tk (by omega), clk_dr, Nat.add_zero]; exact hT_clk (ht g)
  · exact ⟨tn (pF_ft g).1, (pF_ft g).2⟩
  · exact ⟨dn (pZ_zt g).1, tn (pZ_zt g).2.1, (pZ_zt g).2.2⟩
theorem kd_sh {D T F Z : List UInt8} (h : Sh D T F Z) : kd4 D T Z ≠ 0 := by
  unfold kd4
  split
  · omega
  · split
    · omega
    · split
      · omega
      · rename_i h1 h2 h3
        rw [if_pos (h.n.resolve_right h3)]; omega
/-- A text is its parts, put together, and what is behind them. -/
theorem join {l : List UInt8} (h : kd l ≠ 0) : ∃ c : UInt8, sp (c.toNat : Int) = true ∧ l = asm c (pD l) (pT l) (pF l) (pZ l) ++ l.drop (en l) ∧ (asm c (pD l) (pT l) (pF l) (pZ l)).length = en l := by
  have sh := sh_of h
  cases hd : dte l
  · cases hh : hT l
    · exact absurd (kd_zero hd hh) h
    · have a : pD l = [] := by rw [pD, hd]; rfl
      have z : pZ l = [] := by
        by_cases z : pZ l = []
        · exact z
        · have := (pZ_zt z).1; rw [hd] at this; cases this
      have nz : nZ l = 0 := by rw [← pZ_len, z]; rfl
      have ht : tp l = 0 := by rw [tp, hd]; rfl
      have he : en l = 8 + nF l := by rw [en, hh, if_pos rfl, ht, nz]; omega
      refine ⟨84, by decide, ?_, ?_⟩
      · rw [a, z, he, asm, md, if_neg (fun g => g.1 rfl), pT, hh, if_pos rfl, ht, pF, ht, List.drop_zero]
        simp only [List.nil_append, List.append_nil, Nat.zero_add]
        rw [List.append_assoc, ← List.drop_drop, List.take_append_drop, List.take_append_drop]
      · rw [a, z, he, asm, md, if_neg (fun g => g.1 rfl)]
        simp only [List.nil_append, List.append_nil, List.length_append, pF_len, pT_len hh]
  · cases hh : hT l
    · have b : pT l = [] := by rw [pT, hh]; rfl
      have f : pF l = [] := by
        by_cases z : pF l = []
        · exact z
        · have := (pF_ft z).1; rw [hh] at this; cases this
      have z : pZ l = [] := by
        by_cases z : pZ l = []
        · exact z
        · have := (pZ_zt z).2.1; rw [hh] at this; cases this
      have he : en l = 10 := by rw [en, hh, hd]; rfl
      refine ⟨84, by decide, ?_, ?_⟩
      · rw [b, f, z, he, asm, md, if_neg (fun g => g.2 rfl), pD, hd, if_pos rfl]
        simp
      · rw [b, f, z, he, asm, md, if_neg (fun g => g.2 rfl)]
        simp [pD_len hd]
    · have dn : pD l ≠ [] := fun e => by have := pD_len hd; rw [e] at this; cases this
      have tn : pT l ≠ [] := fun e => by have := pT_len hh; rw [e] at this; cases this
      have ht : tp l = 11 := by rw [tp, hd]; rfl
      have he : en l = 19 + nF l + nZ l := by rw [en, hh, if_pos rfl, ht]
      have hin : 10 < l.length := by have := clk_in (hT_clk hh); omega
      have hs : sp (bt l 10) = true := by
        have := hh
        rw [hT, hd, if_pos rfl] at this
        simp only [Bool.and_eq_true] at this
        exact this.1
      refine ⟨l[10], ?_, ?_, ?_⟩
      · have : bt l 10 = ((l[10]).toNat : Int) := by simp [bt, hin]
        rw [← this]; exact hs
      · rw [he, asm, md, if_pos ⟨dn, tn⟩, pD, hd, if_pos rfl, pT, hh, if_pos rfl, ht, pF, ht, pZ, ht]
        have e1 : l.drop (19 + nF l + nZ l) = ((l.drop (11 + 8 + nF l)).drop (nZ l)) := by rw [List.drop_drop]
        have e2 : l.drop (11 + 8 + nF l) = (l.drop (11 + 8)).drop (nF l) := by rw [List.drop_drop]
        have e3 : l.drop (11 + 8) = (l.drop 11).drop 8 := by rw [List.drop_drop]
        have e4 : l.drop 10 = l[10] :: l.drop 11 := List.drop_eq_getElem_cons hin
        rw [e1]
        simp only [List.append_assoc]
        rw [List.take_append_drop, e2, List.take_append_drop, e3, List.take_append_drop]
        show l = List.take 10 l ++ (l[10] :: l.drop 11)
        rw [← e4, List.take_append_drop]
      · rw [he, asm, md, if_pos ⟨dn, tn⟩]
        simp only [List.length_append, pF_len, pZ_len, pT_len hh, pD_len hd, List.length_cons, List.length_nil]
        omega
/-- What is read of parts put together. -/
theorem rd_asm {D T F Z : List UInt8} (h : Sh D T F Z) {c : UInt8} (hc : sp (c.toNat : Int) = true) :
    rdD (asm c D T F Z) = (if ok D T Z = true then (nm D T F Z, 0) else ([], 9)) ∧ kd (asm c D T F Z) = kd4 D T Z ∧ en (asm c D T F Z) = (asm c D T F Z).length := by
  obtain ⟨_, h2⟩ := con h hc []
  rw [List.append_nil] at h2
  obtain ⟨a, b, e, z, n⟩ := h2 rfl
  have hk : kd (asm c D T F Z) = kd4 D T Z := by rw [kd, a, b, z]
  refine ⟨?_, hk, n⟩
  rw [rdD, if_pos ⟨n, by rw [hk]; exact kd_sh h⟩, a, b, e, z]
theorem rd_code {l : List UInt8} : (rdD l).2 ≠ 3 ↔ en l = l.length ∧ kd l ≠ 0 := by
  unfold rdD
  by_cases h : en l = l.length ∧ kd l ≠ 0
  · rw [if_pos h]
    split <;> simp [h]
  · rw [if_neg h]
    simp [h]
theorem kd_en {l : List UInt8} : kd l ≠ 0 ↔ 0 < en l := by
  constructor
  · intro h
    obtain ⟨c, _, _, h3⟩ := join h
    rw [← h3, asm]
    have sh := sh_of h
    simp only [List.length_append]
    rcases sh.n with g | g
    · have := (sh.d g).1; omega
    · have := (sh.t g).1; omega
  · intro h e
    unfold en at h
    have : dte l = true ∨ hT l = true := by
      cases h1 : dte l
      · cases h2 : hT l
        · rw [h1, h2] at h; simp at h
        · exact .inr rfl
      · exact .inl rfl
    rcases this with g | g
    · have hp : pD l ≠ [] := fun e => by have := pD_len g; rw [e] at this; cases this
      unfold kd kd4 at e
      split at e
      · cases e
      · split at e
        · cases e
        · split at e
          · cases e
          · cases e
    · have hp : pT l ≠ [] := fun e => by have := pT_len g; rw [e] at this; cases this
      unfold kd kd4 at e
      split at e
      · cases e
      · split at e
        · cases e
        · cases e
/-- The longest beginning is of the form. -/
theorem begin_is {l : List UInt8} (h : 0 < en l) : (rdD (l.take (en l))).2 ≠ 3 := by
  have hk := kd_en.2 h
  obtain ⟨c, hc, h2, h3⟩ := join hk
  have e : l.take (en l) = asm c (pD l) (pT l) (pF l) (pZ l) := by
    rw [← h3]; exact (congrArg (List.take (asm c (pD l) (pT l) (pF l) (pZ l)).length) h2).trans (List.take_left' rfl)
  rw [e, rd_code]
  obtain ⟨_, r2, r3⟩ := rd_asm (sh_of hk) hc
  exact ⟨r3, by rw [r2]; exact kd_sh (sh_of hk)⟩
/-- No longer one is. -/
theorem begin_no {l : List UInt8} {i : Nat} (h : en l < i) (hi : i ≤ l.length) : (rdD (l.take i)).2 = 3 := by
  apply Decidable.byContradiction
  intro hn
  obtain ⟨h1, h2⟩ := rd_code.1 hn
  obtain ⟨c, hc, h3, h4⟩ := join h2
  have h5 : (l.take i).length = i := by rw [List.length_take]; omega
  have h6 : (l.take i).drop (en (l.take i)) = [] := by rw [h1, List.drop_length]
  rw [h6, List.append_nil] at h3
  have h7 := (con (sh_of h2) hc (l.drop i)).1
  rw [← h3, List.take_append_drop, h5] at h7
  omega
end Da
end Go.Proofs.YtgmlbcdakblpiaaDoor
