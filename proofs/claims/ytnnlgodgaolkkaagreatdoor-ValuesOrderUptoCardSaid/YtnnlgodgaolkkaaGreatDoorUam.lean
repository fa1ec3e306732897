/- A value's text, as lists: how long it is; it hangs on the value with its keys in order alone. -/
import Derived.Test.YtnnlgodgaolkkaaGreatDoorHd
import Derived.Test.YtnnlgodgaolkkaaGreatDoorHa
namespace Go.Proofs.YtnnlgodgaolkkaaGreatDoor
open Go.RowKit
namespace Va

/-- Texts, each behind a comma. -/
def cms : List Bs → Bs
  | [] => []
  | t :: r => 44 :: (t ++ cms r)
theorem cms_app (a b : List Bs) : cms (a ++ b) = cms a ++ cms b := by
  induction a with
  | nil => rfl
  | cons t r ih => simp [cms, ih]
theorem cms_len : ∀ L : List Bs, (cms L).length = L.length + kw L
  | [] => rfl
  | t :: r => by rw [cms, List.length_cons, List.length_append, cms_len r, List.length_cons, kw]; omega
theorem cms_take {L : List Bs} {i : Nat} {t : Bs} (h : L[i]? = some t) : cms (L.take (i + 1)) = cms (L.take i) ++ 44 :: t := by
  rw [List.take_add_one, h, cms_app]; simp [cms]
theorem kw_app (a b : List Bs) : kw (a ++ b) = kw a + kw b := by
  induction a with
  | nil => simp [kw]
  | cons t r ih => rw [List.cons_append, kw, kw, ih]; omega
theorem kw_take (L : List Bs) (i : Nat) : kw (L.take i) ≤ kw L := by
  have := kw_app (L.take i) (L.drop i)
  rw [List.take_append_drop] at this; omega
theorem cms_take_len (L : List Bs) (i : Nat) : (cms (L.take i)).length ≤ (cms L).length := by
  rw [cms_len, cms_len]
  have := kw_take L i
  have : (L.take i).length ≤ L.length := by simp; omega
  omega
theorem kw_perm {a b : List Bs} (h : a.Perm b) : kw a = kw b := by
  induction h with
  | nil => rfl
  | cons x _ ih => rw [kw, kw, ih]
  | swap x y l => simp only [kw]; omega
  | trans _ _ h1 h2 => rw [h1, h2]
theorem ins_perm (ks : List Bs) (i : Nat) : ∀ l, (ins ks i l).Perm (i :: l)
  | [] => .refl _
  | j :: r => by
    rw [ins]; split
    · exact ((ins_perm ks i r).cons j).trans (.swap i j r)
    · exact .refl _
theorem ord_perm (ks : List Bs) : ∀ n, (ord ks n).Perm (List.range n)
  | 0 => .refl _
  | n + 1 => by
    rw [ord, List.range_succ]
    exact ((ins_perm ks n _).trans ((ord_perm ks n).cons n)).trans (List.perm_append_singleton n _).symm
/-- An entry. -/
def ent (k t : Bs) : Bs := Qu.wrq k ++ 58 :: t
mutual
def te : V → Bs
  | .mk k t l ks => if k = 0 then [110, 117, 108, 108] else if k = 3 then Qu.wrq t else if k = 7 then 91 :: ((cms (teL l)).drop 1 ++ [93])
    else if k = 8 then 123 :: ((cms ((ord ks ks.length).map fun j => ent (ks.getD j []) ((teL l).getD j []))).drop 1 ++ [125]) else t
def teL : List V → List Bs
  | [] => []
  | x :: r => te x :: teL r
end
theorem teL_get : ∀ (l : List V) (i : Nat), (teL l)[i]? = (l[i]?).map te
  | [], _ => by rw [teL]; simp
  | x :: r, 0 => by rw [teL]; simp
  | x :: r, i + 1 => by rw [teL]; simpa using teL_get r i
theorem teL_len : ∀ l : List V, (teL l).length = l.length
  | [] => by rw [teL]; rfl
  | x :: r => by rw [teL, List.length_cons, teL_len r, List.length_cons]
theorem teL_at {l : List V} {i : Nat} {x : V} (h : l[i]? = some x) : (teL l)[i]? = some (te x) := by rw [teL_get, h]; rfl
theorem escs_len6 (t : Bs) : (Qu.escs t).length ≤ 6 * t.length := by
  induction t with
  | nil => simp [Qu.escs]
  | cons c t ih => have := Qu.esc_len6 c; rw [Qu.escs_cons, List.length_append, List.length_cons]; omega
theorem wrq_len (l : Bs) : (Qu.wrq l).length ≤ 6 * l.length + 2 := by
  have := escs_len6 l
  unfold Qu.wrq
  simp; omega
theorem kw_ent : ∀ (ks T : List Bs), ks.length = T.length → kw ((List.range ks.length).map fun j => ent (ks.getD j []) (T.getD j [])) ≤ 6 * kw ks + 3 * ks.length + kw T
  | [], [], _ => by simp [kw]
  | [], _ :: _, h => by simp at h
  | _ :: _, [], h => by simp at h
  | k :: ks, t :: T, h => by
    have ih := kw_ent ks T (by simpa using h)
    rw [List.length_cons, List.range_succ_eq_map, List.map_cons, List.map_map, kw, kw, kw]
    have e : ((fun j => ent ((k :: ks).getD j []) ((t :: T).getD j [])) ∘ Nat.succ) = fun j => ent (ks.getD j []) (T.getD j []) := by
      funext j; simp [Function.comp]
    rw [e]
    have h2 : (ent ((k :: ks).getD 0 []) ((t :: T).getD 0 [])).length ≤ 6 * k.length + 3 + t.length := by
      have := wrq_len k
      simp [ent]; omega
    omega
mutual
theorem te_len : ∀ {x : V}, pl x = true → (te x).length + 1 ≤ 8 * wt x
  | .mk k t l ks, h => by
    rw [pl, Bool.and_eq_true] at h
    have hh := of_decide_eq_true h.1
    have ih := teL_len8 h.2
    rw [te, wt]
    split
    · simp; omega
    · split
      · have := wrq_len t; omega
      · split
        · rw [List.length_cons, List.length_append, List.length_drop, cms_len]; simp; omega
        · split
          · rename_i h8
            have e := hh.2.2.2.2.1 h8
            have h1 := kw_perm ((ord_perm ks ks.length).map fun j => ent (ks.getD j []) ((teL l).getD j []))
            have h2 := kw_ent ks (teL l) (by rw [teL_len, e])
            rw [List.length_cons, List.length_append, List.length_drop, cms_len, h1, List.length_map, ord_len]
            have h3 := teL_len l
            generalize kw ((List.range ks.length).map fun j => ent (ks.getD j []) ((teL l).getD j [])) = q at h2 ⊢
            rw [List.length_singleton]; omega
          · omega
theorem teL_len8 : ∀ {l : List V}, plL l = true → (teL l).length + kw (teL l) ≤ 8 * wtL l
  | [], _ => by rw [teL]; simp [kw]
  | x :: r, h => by
    rw [plL, Bool.and_eq_true] at h
    have h1 := te_len h.1
    have h2 := teL_len8 h.2
    rw [teL, List.length_cons, kw, wtL]; omega
end
mutual
/-- The text of a value whose keys stand in order. -/
def tc : V → Bs
  | .mk k t l ks => if k = 0 then [110, 117, 108, 108] else if k = 3 then Qu.wrq t else if k = 7 then 91 :: ((cms (tcL l)).drop 1 ++ [93])
    else if k = 8 then 123 :: ((cms (List.zipWith ent ks (tcL l))).drop 1 ++ [125]) else t
def tcL : List V → List Bs
  | [] => []
  | x :: r => tc x :: tcL r
end
theorem tcL_map : ∀ l : List V, tcL l = l.map tc
  | [] => by rw [tcL]; rfl
  | x :: r => by rw [tcL, List.map_cons, tcL_map r]
mutual
theorem te_can : ∀ {x : V}, pl x = true → te x = tc (can x)
  | .mk k t l ks, h => by
    rw [pl, Bool.and_eq_true] at h
    have hh := of_decide_eq_true h.1
    have ih := teL_can h.2
    by_cases h8 : k = 8
    · subst h8
      have e := hh.2.2.2.2.1 rfl
      rw [can_map, te, tc, if_neg (by decide), if_neg (by decide), if_neg (by decide), if_pos rfl, if_neg (by decide), if_neg (by decide), if_neg (by decide), if_pos rfl, tcL_map, List.map_map, List.zipWith_map, List.zipWith_self]
      congr 4
      refine List.map_congr_left fun j hj => ?_
      have hj := ord_mem.1 hj
      obtain ⟨x, hx⟩ := get_lt (l := l) (i := j) (by omega)
      have e1 : (teL l).getD j [] = tc (can x) := by
        rw [ih, tcL_map, List.getD_eq_getElem?_getD, List.getElem?_map, canL_some hx]; rfl
      rw [e1, Function.comp, can_at hx]
    · rw [can_no h8, te, tc, ih]
      simp only [if_neg h8]
theorem teL_can : ∀ {l : List V}, plL l = true → teL l = tcL (canL l)
  | [], _ => by rw [teL, canL, tcL]
  | x :: r, h => by
    rw [plL, Bool.and_eq_true] at h
    rw [teL, canL, tcL, te_can h.1, teL_can h.2]
end
theorem may_pl {x : V} (h : may x = true) : pl x = true := by unfold may at h; rw [Bool.and_eq_true] at h; exact h.2
theorem may_dp {x : V} (h : may x = true) : dp x ≤ 256 := by unfold may at h; rw [Bool.and_eq_true] at h; exact of_decide_eq_true h.1
/-- The same just if they are one, their keys in order. -/
theorem sm_can {x y : V} (hx : pl x = true) (hy : pl y = true) : sm x y = true ↔ can x = can y := by
  rw [sm_iff]
  exact ⟨fun h => cmpV_eq (wsh_can hx) (wsh_can hy) h, fun h => by rw [h]; exact cmpV_self _⟩
theorem te_sm {x y : V} (hx : pl x = true) (hy : pl y = true) (h : sm x y = true) : te x = te y := by rw [te_can hx, te_can hy, (sm_can hx hy).1 h]
end Va
end Go.Proofs.YtnnlgodgaolkkaaGreatDoor
