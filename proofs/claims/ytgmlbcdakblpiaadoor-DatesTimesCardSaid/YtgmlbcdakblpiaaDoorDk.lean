/- Date-times as lists: what is read is its own normal form. -/
import Derived.Test.YtgmlbcdakblpiaaDoorDl
import Derived.Test.YtgmlbcdakblpiaaDoorDu
namespace Go.Proofs.YtgmlbcdakblpiaaDoor
open Go.RowKit
namespace Da

theorem stp_fix {ds : List UInt8} (h1 : ds ≠ []) (h : ds.getLast? ≠ some 48) : stp (46 :: ds) = 46 :: ds := by
  have e : st0 (46 :: ds) = 46 :: ds := by
    unfold st0
    obtain ⟨x, r, hx⟩ := List.exists_cons_of_ne_nil (l := ds.reverse) (by simpa using h1)
    have hx48 : x ≠ 48 := by
      rintro rfl
      apply h
      have := congrArg List.reverse hx
      rw [List.reverse_reverse, List.reverse_cons] at this
      rw [this]; simp
    have hd : (ds.reverse).dropWhile (· == 48) = ds.reverse := by
      rw [hx, List.dropWhile_cons, if_neg (by simpa using hx48)]
    rw [List.reverse_cons, drop0_app, hd, if_neg (by simpa using h1)]
    simp
  rw [stp, e, if_neg (by intro g; injection g with _ g; exact h1 g)]
theorem stp_idem {F : List UInt8} (h : F = [] ∨ ft F) : stp (stp F) = stp F := by
  rcases h with rfl | h
  · rfl
  · rcases st0_ft h with h2 | ⟨ds, h1, h2, h3, h4⟩
    · have : stp F = [] := by rw [stp, if_pos h2]
      rw [this]; rfl
    · have : stp F = 46 :: ds := by rw [stp, h2, if_neg (by intro e; injection e with _ e; exact h1 e)]
      rw [this]; exact stp_fix h1 h4
theorem up_up (c : UInt8) : up (up c) = up c := by
  unfold up
  split
  · rfl
  · rfl
theorem map_up (Z : List UInt8) : (Z.map up).map up = Z.map up := by
  rw [List.map_map]; exact List.map_congr_left fun c _ => up_up c
theorem six_up {Z : List UInt8} (h : Z.length = 6) (h2 : zs Z 0 = true) : Z.map up = Z := by
  have hb : ∀ c ∈ Z, up c = c := fun c hc => by
    unfold up
    rw [if_neg]
    rintro rfl
    obtain ⟨k, hk, hb⟩ := mem_bt hc
    have hb : bt Z k = 122 := hb
    obtain ⟨a1, a2, a3, a4⟩ := zs_iff.1 h2
    have b2 := t2_iff.1 a2
    have b4 := t2_iff.1 a4
    simp only [Nat.zero_add, Nat.reduceAdd] at b2 b4 a3
    have : k = 0 ∨ k = 1 ∨ k = 2 ∨ k = 3 ∨ k = 4 ∨ k = 5 := by omega
    rcases this with rfl | rfl | rfl | rfl | rfl | rfl <;> omega
  rw [List.map_congr_left hb, List.map_id'']
  intro c; rfl
theorem zt_up {Z : List UInt8} (h : zt Z) : zt (Z.map up) := by
  rcases h with ⟨h1, h2⟩ | ⟨h1, h2⟩
  · match Z, h1, h2 with
    | [c], _, h2 =>
      refine .inl ⟨rfl, ?_⟩
      unfold zc at h2 ⊢
      have h3 := of_decide_eq_true h2
      rw [bt_c] at h3
      show decide (bt [up c] 0 = 90 ∨ bt [up c] 0 = 122) = true
      rw [bt_c]
      unfold up
      split
      · decide
      · exact decide_eq_true h3
  · rw [six_up h1 h2]; exact .inr ⟨h1, h2⟩
theorem mZ_up {Z : List UInt8} (h : zt Z) : mZ (Z.map up) = mZ Z := by
  rcases h with ⟨h1, h2⟩ | ⟨h1, h2⟩
  · rw [mZ, mZ, decide_eq_true (.inl (by rw [List.length_map]; omega)), decide_eq_true (.inl (by omega))]
  · rw [six_up h1 h2]
theorem sh_up {D T F Z : List UInt8} (h : Sh D T F Z) : Sh D T (stp F) (Z.map up) := by
  refine ⟨h.n, h.d, h.t, fun g => ?_, fun g => ?_⟩
  · by_cases f : F = []
    · rw [f] at g; exact absurd rfl g
    · refine ⟨(h.f f).1, ?_⟩
      exact (stp_ft (.inr (h.f f).2)).resolve_left g
  · have z : Z ≠ [] := fun e => by rw [e] at g; exact absurd rfl g
    exact ⟨(h.z z).1, (h.z z).2.1, zt_up (h.z z).2.2⟩
theorem fo {D T F Z : List UInt8} (h : Sh D T F Z) : F = [] ∨ ft F := by
  by_cases f : F = []
  · exact .inl f
  · exact .inr (h.f f).2
theorem ok_up {D T F Z : List UInt8} (h : Sh D T F Z) : ok D T (Z.map up) = ok D T Z := by
  unfold ok
  by_cases z : Z = []
  · rw [z]; rfl
  · rw [mZ_up (h.z z).2.2]
    simp
theorem nm_up {D T F Z : List UInt8} (h : Sh D T F Z) : nm D T (stp F) (Z.map up) = nm D T F Z := by
  rw [nm, nm, stp_idem (fo h), map_up]
theorem kd4_up (D T Z : List UInt8) : kd4 D T (Z.map up) = kd4 D T Z := by unfold kd4; simp
/-- A normal form is read as itself. -/
theorem rd_nm {D T F Z : List UInt8} (h : Sh D T F Z) (ho : ok D T Z = true) : rdD (nm D T F Z) = (nm D T F Z, 0) ∧ kd (nm D T F Z) = kd4 D T Z := by
  obtain ⟨a, b, _⟩ := rd_asm (sh_up h) (c := 84) (by decide)
  rw [ok_up h, if_pos ho, nm_up h] at a
  rw [kd4_up] at b
  exact ⟨a, b⟩
theorem rd_ok {l : List UInt8} (h : (rdD l).2 = 0) : Sh (pD l) (pT l) (pF l) (pZ l) ∧ ok (pD l) (pT l) (pZ l) = true ∧ (rdD l).1 = nm (pD l) (pT l) (pF l) (pZ l) ∧ en l = l.length := by
  unfold rdD at h ⊢
  by_cases g : en l = l.length ∧ kd l ≠ 0
  · rw [if_pos g] at h ⊢
    by_cases ho : ok (pD l) (pT l) (pZ l) = true
    · rw [if_pos ho]
      exact ⟨sh_of g.2, ho, rfl, g.1⟩
    · rw [if_neg ho] at h; cases h
  · rw [if_neg g] at h; cases h
theorem rd_rd {l : List UInt8} (h : (rdD l).2 = 0) : rdD (rdD l).1 = ((rdD l).1, 0) ∧ kd (rdD l).1 ≠ 0 := by
  obtain ⟨a, b, e, _⟩ := rd_ok h
  obtain ⟨r1, r2⟩ := rd_nm a b
  rw [e]
  exact ⟨r1, by rw [r2]; exact kd_sh a⟩
theorem rd_cases (l : List UInt8) : (rdD l).2 = 0 ∨ (rdD l).2 = 3 ∧ (rdD l).1 = [] ∨ (rdD l).2 = 9 ∧ (rdD l).1 = [] := by
  unfold rdD
  split
  · split
    · exact .inl rfl
    · exact .inr (.inr ⟨rfl, rfl⟩)
  · exact .inr (.inl ⟨rfl, rfl⟩)
theorem nm_len {D T F Z : List UInt8} (h : Sh D T F Z) : (nm D T F Z).length ≤ 25 + F.length := by
  rw [nm, asm]
  simp only [List.length_append, List.length_map]
  have d : D.length ≤ 10 := by
    by_cases g : D = []
    · rw [g]; simp
    · rw [(h.d g).1]; omega
  have t : T.length ≤ 8 := by
    by_cases g : T = []
    · rw [g]; simp
    · rw [(h.t g).1]; omega
  have z : Z.length ≤ 6 := by
    by_cases g : Z = []
    · rw [g]; simp
    · rcases (h.z g).2.2 with ⟨e, _⟩ | ⟨e, _⟩ <;> omega
  have m : (md D T 84).length ≤ 1 := by unfold md; split <;> simp
  have f : (stp F).length ≤ F.length := by
    unfold stp
    split
    · simp
    · exact st0_len F
  omega
theorem pF_le (l : List UInt8) : (pF l).length ≤ l.length := by
  rw [pF, List.length_take, List.length_drop]; omega
theorem rd_len (l : List UInt8) : (rdD l).1.length ≤ 25 + l.length := by
  rcases rd_cases l with h | ⟨_, h⟩ | ⟨_, h⟩
  · obtain ⟨a, b, e, _⟩ := rd_ok h
    rw [e]
    have := nm_len a
    have := pF_le l
    omega
  · rw [h]; simp
  · rw [h]; simp
end Da
end Go.Proofs.YtgmlbcdakblpiaaDoor
