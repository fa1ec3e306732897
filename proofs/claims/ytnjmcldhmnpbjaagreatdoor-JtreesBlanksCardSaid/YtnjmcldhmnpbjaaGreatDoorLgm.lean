/- JSON documents as lists: with blanks put between tokens a document is as well-formed as it was, and denotes the same. -/
import Derived.Test.YtnjmcldhmnpbjaaGreatDoorLfm
namespace Go.Proofs.YtnjmcldhmnpbjaaGreatDoor
open Go.RowKit
namespace Jt
open Jk (tks TK tk_of tk_len tks_tok tks_end spc spc_v)
open U8 (lng scn bhd wth lo1 hi1)

theorem bt_front {a b : Bs} {k : Nat} (h : k < a.length) : bt (a ++ b) k = bt a k := by rw [Jk.bt_app, if_pos h]
theorem lng_app {a b : Bs} (h0 : lng a ≠ 0) : lng (a ++ b) = lng a := by
  have hll := U8.lng_le a
  have hlen : (a ++ b).length = a.length + b.length := List.length_append
  have b0 : bt (a ++ b) 0 = bt a 0 := bt_front (by omega)
  have bk : ∀ k, k < lng a → bt (a ++ b) k = bt a k := fun k hk => bt_front (by omega)
  obtain ⟨n, hn⟩ : ∃ n, n = lng a := ⟨_, rfl⟩
  rw [← hn] at h0 hll bk ⊢
  unfold lng at hn ⊢
  rw [b0]
  split at hn
  · omega
  · rw [if_neg (by omega)]
    split at hn
    · rw [if_pos (by assumption)]; omega
    · rw [if_neg (by assumption)]
      split at hn
      · rw [if_pos (by assumption)]
        split at hn
        · rename_i h
          rw [bk 1 (by omega), if_pos ⟨by omega, h.2⟩, hn]
        · omega
      · rw [if_neg (by assumption)]
        split at hn
        · rw [if_pos (by assumption)]
          split at hn
          · rename_i h
            rw [bk 1 (by omega), bk 2 (by omega), if_pos ⟨by omega, h.2⟩, hn]
          · omega
        · rw [if_neg (by assumption)]
          split at hn
          · rw [if_pos (by assumption)]
            split at hn
            · rename_i h
              rw [bk 1 (by omega), bk 2 (by omega), bk 3 (by omega), if_pos ⟨by omega, h.2⟩, hn]
            · omega
          · omega
def Good (l : Bs) : Prop := scn l = l.length
theorem good_app : ∀ (m : Nat) (a b : Bs), a.length ≤ m → Good a → scn (a ++ b) = a.length + scn b := by
  intro m
  induction m with
  | zero =>
    intro a b hl _
    obtain rfl : a = [] := List.eq_nil_of_length_eq_zero (by omega)
    simp
  | succ m ih =>
    intro a b hl ha
    by_cases h0 : a = []
    · subst h0; simp
    · have hpos := List.length_pos_iff.2 h0
      have hn0 : lng a ≠ 0 := fun e => by unfold Good at ha; rw [U8.scn_stop e] at ha; omega
      have hle := U8.lng_le a
      have ha2 : Good (a.drop (lng a)) := by
        unfold Good at ha ⊢
        rw [U8.scn_step hn0] at ha
        rw [List.length_drop]; omega
      have h2 := ih (a.drop (lng a)) b (by rw [List.length_drop]; omega) ha2
      rw [U8.scn_step (by rw [lng_app hn0]; exact hn0), lng_app hn0, List.drop_append_of_le_length hle, h2, List.length_drop]
      omega
def Asc (z : Bs) : Prop := z = [] ∨ (0 < z.length ∧ bt z 0 < 128)
theorem good_iff {a b : Bs} (hb : Asc b) : Good (a ++ b) ↔ Good a ∧ Good b := by
  constructor
  · intro h
    have hB : Bnd (a ++ b) a.length := by
      rcases hb with rfl | ⟨h1, h2⟩
      · left; simp
      · right
        refine ⟨by rw [List.length_append]; omega, ?_⟩
        rw [Jk.bt_app, if_neg (by omega), Nat.sub_self]; exact h2
    have := scn_cut _ _ _ (Nat.le_refl _) h hB
    rw [List.drop_left, List.take_left] at this
    exact ⟨this.2, this.1⟩
  · rintro ⟨h1, h2⟩
    unfold Good at h2 ⊢
    rw [good_app _ a b (Nat.le_refl _) h1, h2, List.length_append]
theorem good_all {B : Bs} (hB : AllB B) : Good B := scn_low _ B (Nat.le_refl _) fun c hc => by have := spc_v.1 (hB c hc); omega
theorem asc_all {B z : Bs} (hB : AllB B) (hz : Asc z) : Asc (B ++ z) := by
  cases B with
  | nil => exact hz
  | cons c r =>
    right
    refine ⟨by simp, ?_⟩
    have := spc_v.1 (hB c List.mem_cons_self)
    show (c.toNat : Int) < 128
    omega
theorem asc_tok {l : Bs} {k n : Nat} (h : TK l k n) (b : Bs) : Asc (l ++ b) := by
  have hn := tk_len h
  refine .inr ⟨by rw [List.length_append]; omega, ?_⟩
  rw [bt_front (by omega)]; exact tk_first h
theorem asc_drop {l : Bs} {p : Nat} (h : (tks l p).2 = none) : Asc (l.drop p) := by
  rcases Nat.lt_or_ge p l.length with hp | hp
  · have := (tks_bnd (l := l) _ p (Nat.le_refl _) (Nat.le_of_lt hp) h).1
    rcases this with e | ⟨_, e⟩
    · omega
    · refine .inr ⟨by rw [List.length_drop]; omega, ?_⟩
      rw [bt_drop, Nat.add_zero]; exact e
  · exact .inl (List.drop_eq_nil_of_le hp)
theorem asc_bld {l : Bs} {S : Nat → Bs} (hS : ∀ i, AllB (S i)) : ∀ (r : List Tok) (q i : Nat), (tks l q).1 = r → (tks l q).2 = none → Asc (bld l S i r)
  | [], q, i, _, _ => by
    rw [bld]
    have := asc_all (hS i) (z := []) (.inl rfl)
    rwa [List.append_nil] at this
  | u :: r, q, i, h, h2 => by
    obtain ⟨k, n, hk, rfl, h3, h4⟩ := tks_inv h h2
    rw [bld]
    refine asc_all (hS i) ?_
    have ih := asc_all (sepB_all r) (asc_bld hS r (q + n) (i + 1) h3 h4)
    by_cases hk0 : k = 0
    · rw [if_neg (by simp [hk0]), List.nil_append]; exact ih
    · rw [if_pos hk0]
      obtain ⟨e1, e2⟩ := cut_at (tk_len hk).2
      have hx := Jk.tk_take hk
      have e3 : (l.drop q).take n = part l (q, q + n) := by
        show _ = (l.take (q + n)).drop q
        rw [List.drop_take, Nat.add_sub_cancel_left]
      rw [e3] at hx
      exact asc_tok hx _
/-- Well-formed just if each token is that is no space. -/
theorem good_bld {l : Bs} {S : Nat → Bs} (hS : ∀ i, AllB (S i)) : ∀ (T : List Tok) (p i : Nat), (tks l p).1 = T → (tks l p).2 = none → (Good (bld l S i T) ↔ ∀ t ∈ T, t.1 ≠ 0 → Good (part l t.2))
  | [], p, i, _, _ => by rw [bld]; exact ⟨fun _ t ht => (by cases ht), fun _ => good_all (hS i)⟩
  | t :: r, p, i, h, h2 => by
    obtain ⟨k, n, hk, rfl, h3, h4⟩ := tks_inv h h2
    have ih := good_bld hS r (p + n) (i + 1) h3 h4
    have ha := asc_bld hS r (p + n) (i + 1) h3 h4
    have e1 : Good (sepB r ++ bld l S (i + 1) r) ↔ ∀ t ∈ r, t.1 ≠ 0 → Good (part l t.2) := by
      rw [good_iff ha]
      exact ⟨fun h => ih.1 h.2, fun h => ⟨good_all (sepB_all r), ih.2 h⟩⟩
    have ha2 := asc_all (sepB_all r) ha
    rw [bld]
    by_cases hk0 : k = 0
    · rw [if_neg (by simp [hk0]), List.nil_append, good_iff ha2, e1]
      refine ⟨fun h t ht hne => ?_, fun h => ⟨good_all (hS i), fun t ht => h t (List.mem_cons_of_mem _ ht)⟩⟩
      rcases List.mem_cons.1 ht with rfl | ht
      · exact absurd hk0 hne
      · exact h.2 t ht hne
    · rw [if_pos hk0]
      have hx := Jk.tk_take hk
      have e3 : (l.drop p).take n = part l (p, p + n) := by
        show _ = (l.take (p + n)).drop p
        rw [List.drop_take, Nat.add_sub_cancel_left]
      rw [e3] at hx
      rw [good_iff (asc_tok hx _), good_iff ha2, e1]
      refine ⟨fun h t ht hne => ?_, fun h => ⟨good_all (hS i), h _ List.mem_cons_self hk0, fun t ht => h t (List.mem_cons_of_mem _ ht)⟩⟩
      rcases List.mem_cons.1 ht with rfl | ht
      · exact h.2.1
      · exact h.2.2 t ht hne
theorem good_tks {l : Bs} : ∀ (T : List Tok) (p : Nat), (tks l p).1 = T → (tks l p).2 = none → (Good (l.drop p) ↔ ∀ t ∈ T, t.1 ≠ 0 → Good (part l t.2))
  | [], p, h, h2 => by
    refine ⟨fun _ t ht => (by cases ht), fun _ => ?_⟩
    rcases Nat.lt_or_ge p l.length with hp | hp
    · cases hx : Jk.nx (l.drop p) with
      | bad n => rw [Jk.tks_bad hp hx] at h2; cases h2
      | tok k n => rw [tks_tok (tk_of hx)] at h; cases h
    · rw [List.drop_eq_nil_of_le hp]; exact U8.scn_stop U8.lng_nil
  | t :: r, p, h, h2 => by
    obtain ⟨k, n, hk, rfl, h3, h4⟩ := tks_inv h h2
    obtain ⟨e1, e2⟩ := cut_at (tk_len hk).2
    have ih := good_tks r (p + n) h3 h4
    have e3 : (l.drop p).take n = part l (p, p + n) := by
      show _ = (l.take (p + n)).drop p
      rw [List.drop_take, Nat.add_sub_cancel_left]
    rw [e1, good_iff (asc_drop h4), ih]
    constructor
    · rintro ⟨g1, g2⟩ t ht hne
      rcases List.mem_cons.1 ht with rfl | ht
      · exact g1
      · exact g2 t ht hne
    · intro g
      refine ⟨?_, fun t ht => g t (List.mem_cons_of_mem _ ht)⟩
      by_cases hk0 : k = 0
      · subst hk0
        have hall : AllB (part l (p, p + n)) := by
          rw [← e3]
          intro c hc
          cases hk with
          | space hs =>
            obtain ⟨j, hj⟩ := List.getElem?_of_mem hc
            have hjn : j < Jk.rw spc (l.drop p) := by
              have := (List.getElem?_eq_some_iff.1 hj).1
              rw [List.length_take] at this; omega
            have := Jk.rw_all Jk.spc0 (l.drop p) j hjn
            rw [List.getElem?_take, if_pos hjn] at hj
            have e : bt (l.drop p) j = (c.toNat : Int) := by
              unfold bt; rw [List.getD_eq_getElem?_getD, hj]; rfl
            rwa [e] at this
        exact good_all hall
      · exact g _ List.mem_cons_self hk0
theorem chk_bld {l : Bs} {S : Nat → Bs} (hS : ∀ i, AllB (S i)) (h : (tks l 0).2 = none) : U8.chkOk (bld l S 0 (tks l 0).1) = U8.chkOk l := by
  have h1 := good_bld hS (tks l 0).1 0 0 rfl h
  have h2 := good_tks (l := l) (tks l 0).1 0 rfl h
  rw [List.drop_zero] at h2
  unfold Good at h1 h2
  unfold U8.chkOk
  exact decide_eq_decide.2 (h1.trans h2.symm)
/-- A node without its places. -/
def nb (n : Nd) : Nat × Bs × List Bs × List Nat := (n.kind, n.text, n.keys, n.subs)
theorem keys_bare : ∀ is : JI, is.bare.keys = is.keys
  | .nil => rfl
  | .cons _ _ _ r => by rw [JI.bare, JI.keys, JI.keys, keys_bare r]
mutual
theorem size_bare : ∀ v : JV, v.bare.size = v.size
  | .sc _ _ _ => by rw [JV.bare, JV.size, JV.size]
  | .box _ _ is => by rw [JV.bare, JV.size, JV.size, isize_bare is]
theorem isize_bare : ∀ is : JI, is.bare.size = is.size
  | .nil => rfl
  | .cons _ _ v r => by rw [JI.bare, JI.size, JI.size, size_bare v, isize_bare r]
end
theorem subs_bare : ∀ (is : JI) (s : Nat), is.bare.subs s = is.subs s
  | .nil, s => by rw [JI.bare]
  | .cons _ _ v r, s => by rw [JI.bare, JI.subs, JI.subs, size_bare v, subs_bare r]
mutual
theorem nds_bare : ∀ (v : JV) (s : Nat), (v.bare.nds s).map nb = (v.nds s).map nb
  | .sc _ _ _, s => by rw [JV.bare, JV.nds, JV.nds]; rfl
  | .box m _ is, s => by
    rw [JV.bare, JV.nds, JV.nds, List.map_cons, List.map_cons, inds_bare is (s + 1)]
    congr 1
    show (_, _, (if m = true then is.bare.keys else []), is.bare.subs (s + 1)) = (_, _, (if m = true then is.keys else []), is.subs (s + 1))
    rw [keys_bare, subs_bare]
theorem inds_bare : ∀ (is : JI) (s : Nat), (is.bare.nds s).map nb = (is.nds s).map nb
  | .nil, s => by rw [JI.bare]
  | .cons _ _ v r, s => by rw [JI.bare, JI.nds, JI.nds, List.map_append, List.map_append, nds_bare v, inds_bare r, size_bare]
end
/-- What the law of blanks asks of both parses. -/
def LikeN : NR → NR → Prop
  | .ok a, .ok b => a.map nb = b.map nb
  | .bad c _, .bad c' _ => c = c'
  | _, _ => False
theorem blanks_parse {l : Bs} {S : Nat → Bs} (hS : ∀ i, AllB (S i)) (h : (tks l 0).2 = none) : LikeN (parseR l) (parseR (bld l S 0 (tks l 0).1)) := by
  obtain ⟨c, hc⟩ : ∃ c, c = bld l S 0 (tks l 0).1 := ⟨_, rfl⟩
  have hsay := bld_says hS (tks l 0).1 0 0 [] rfl h (fun c hc => by cases hc)
  rw [List.nil_append] at hsay
  have hchk := chk_bld hS h
  rw [← hc] at hsay hchk ⊢
  obtain ⟨hok, hs⟩ := hsay
  unfold parseR
  rw [hchk]
  by_cases hk : U8.chkOk l = true
  · rw [if_pos hk, if_pos hk, docP_doc, docP_doc, show (tks c 0).2 = none from hok, h]
    have hE : Sames (envL l (enOf l)) (envL c (enOf c)) := ⟨rfl, rfl, rfl⟩
    have hsay2 : say (envL l (enOf l)) (sol l) = say (envL c (enOf c)) (sol c) := hs.symm
    have hlen : (sol c).length = (sol l).length := by
      have := congrArg List.length hsay2
      unfold say at this
      rw [List.length_map, List.length_map] at this; exact this.symm
    have hl := pv_like hE (2 * (sol l).length + 2) 0 (sol l) (sol c) hsay2
    unfold doc
    rw [hlen]
    cases hp : pv (envL l (enOf l)) (2 * (sol l).length + 2) 0 (sol l) with
    | out => exact absurd hp (pv_in _ _ _ (by omega))
    | bad c1 a1 =>
      rw [hp] at hl
      cases hq : pv (envL c (enOf c)) (2 * (sol l).length + 2) 0 (sol c) with
      | out => rw [hq] at hl; exact hl.elim
      | bad c2 a2 => rw [hq] at hl; exact hl
      | ok v r => rw [hq] at hl; exact hl.elim
    | ok v r =>
      rw [hp] at hl
      cases hq : pv (envL c (enOf c)) (2 * (sol l).length + 2) 0 (sol c) with
      | out => rw [hq] at hl; exact hl.elim
      | bad c2 a2 => rw [hq] at hl; exact hl.elim
      | ok v' r' =>
        rw [hq] at hl
        obtain ⟨g1, g2⟩ := hl
        cases r with
        | nil =>
          obtain rfl := say_nil g2
          show (v.nds 0).map nb = (v'.nds 0).map nb
          rw [← nds_bare v, ← nds_bare v', g1]
        | cons t r =>
          obtain ⟨t', r2, rfl, _⟩ := say_cons g2
          rfl
  · rw [if_neg hk, if_neg hk]
    rfl
end Jt
end Go.Proofs.YtnjmcldhmnpbjaaGreatDoor
