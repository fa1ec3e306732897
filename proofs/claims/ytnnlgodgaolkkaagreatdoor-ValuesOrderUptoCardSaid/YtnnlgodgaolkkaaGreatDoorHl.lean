/- What landed of values: a map's entries in the order of their keys, as lists; rows of entries of one's own. -/
import Derived.Test.YtnnlgodgaolkkaaGreatDoorLim
import Derived.Test.YtnnlgodgaolkkaaGreatDoorHd
import Derived.Test.YtnnlgodgaolkkaaGreatDoorStm
import Derived.OwnWalk
import Derived.Deep.DeepAppendRoom
namespace Go.Proofs.YtnnlgodgaolkkaaGreatDoor
open Go.RowKit
namespace Va
set_option maxRecDepth 100000

/-- A map's entries, in the order of its keys. -/
def entL (l : List V) (ks : List Bs) : List (Bs × V) := (ord ks ks.length).map fun j => (ks.getD j [], l.getD j v0)
theorem entL_len (l : List V) (ks : List Bs) : (entL l ks).length = ks.length := by rw [entL, List.length_map, ord_len]
/-- How entries stand by their keys. -/
def cfE (e f : En) : Int := oN (bcmp e.key f.key)
theorem ltE (e f : En) : ltOf cfE e f = bl e.key f.key := by
  unfold ltOf cfE
  cases h : bl e.key f.key with
  | true => exact decide_eq_true (oN_lt.2 (bcmp_lt.2 h))
  | false => exact decide_eq_false fun h2 => by rw [bcmp_lt.1 (oN_lt.1 h2)] at h; cases h
theorem swoE : Sort.SWO (ltOf cfE) where
  irrefl x := by rw [ltE, bl_irr]
  trans x y z h1 h2 := by rw [ltE] at *; exact bl_tr h1 h2
  ntrans x y z h1 h2 := by
    rw [ltE] at *
    cases h : bl x.key z.key with
    | false => rfl
    | true =>
      cases h3 : bl z.key y.key with
      | true => have := bl_tr h h3; rw [h1] at this; cases this
      | false => have e := bl_tot h3 h2; rw [e] at h; rw [h] at h1; cases h1
theorem sorted_row {ks : List Bs} {l : List V} {L : List En} {d : Array En} (P : En → V → Prop) (_hkl : ks.length = l.length) (hnd : ks.Nodup) (hL : L.length = ks.length)
    (hLe : ∀ (i : Nat) (e : En), L[i]? = some e → ∃ s x, ks[i]? = some s ∧ l[i]? = some x ∧ e.key = s ∧ P e x)
    (hp : Sort.PermIn 0 L.toArray.size L.toArray d) (hs : Sort.SortedIn (ltOf cfE) 0 L.toArray.size d) :
    d.size = ks.length ∧ ∀ (i : Nat) (s : Bs) (x : V), (entL l ks)[i]? = some (s, x) → ∃ e, d.toList[i]? = some e ∧ e.key = s ∧ P e x := by
  obtain ⟨h1, _, h3⟩ := hp
  have hds : d.size = L.length := by rw [h1]; simp
  have hperm : d.toList.Perm L := by
    have e1 : (d.extract 0 L.toArray.size).toList = d.toList := by rw [show L.toArray.size = d.size by rw [hds]; simp]; simp
    have e2 : (L.toArray.extract 0 L.toArray.size).toList = L := by simp
    rw [e1, e2] at h3; exact h3
  have hkeys : L.map En.key = ks := by
    apply List.ext_getElem
    · simp [hL]
    · intro i a b
      have hi : i < L.length := by simpa using a
      obtain ⟨s, x, k1, _, k3, _⟩ := hLe i L[i] (List.getElem?_eq_getElem hi)
      rw [List.getElem_map, k3]
      have := (List.getElem?_eq_some_iff.1 k1).2
      exact this.symm
  have hkp : (d.toList.map En.key).Perm ks := by rw [← hkeys]; exact hperm.map _
  have hkn : (d.toList.map En.key).Nodup := hkp.nodup_iff.2 hnd
  have hup : (d.toList.map En.key).Pairwise fun x y => bl x y = true := by
    rw [List.pairwise_iff_getElem]
    intro i j hi hj hij
    rw [List.length_map] at hi hj
    have hi' : i < d.size := by simpa using hi
    have hj' : j < d.size := by simpa using hj
    have := hs i j (Nat.zero_le _) hij (by rw [← h1]; exact hj')
    rw [ltE, getElem!_pos d j hj', getElem!_pos d i hi'] at this
    rw [List.getElem_map, List.getElem_map, Array.getElem_toList, Array.getElem_toList]
    cases h : bl d[i].key d[j].key with
    | true => rfl
    | false =>
      have e := bl_tot h this
      have := List.pairwise_iff_getElem.1 hkn i j (by simpa using hi) (by simpa using hj) hij
      rw [List.getElem_map, List.getElem_map, Array.getElem_toList, Array.getElem_toList] at this
      exact absurd e this
  have heq : d.toList.map En.key = (ord ks ks.length).map fun j => ks.getD j [] :=
    up_uniq hup (sorted_keys hnd) fun s => by rw [sorted_mem]; exact hkp.mem_iff
  refine ⟨by rw [hds, hL], fun i s x hi => ?_⟩
  have hin : i < ks.length := by have := (List.getElem?_eq_some_iff.1 hi).1; rwa [entL_len] at this
  have hid : i < d.toList.length := by rw [Array.length_toList, hds, hL]; exact hin
  rw [entL, List.getElem?_map] at hi
  obtain ⟨j, hj, e9⟩ := Option.map_eq_some_iff.1 hi
  have hjn := ord_mem.1 (List.mem_of_getElem? hj)
  have e1 : ks.getD j [] = s := congrArg Prod.fst e9
  have e2 : l.getD j v0 = x := congrArg Prod.snd e9
  refine ⟨d.toList[i], List.getElem?_eq_getElem hid, ?_, ?_⟩
  · have := congrArg (·[i]?) heq
    simp only [List.getElem?_map, hj, List.getElem?_eq_getElem hid, Option.map_some, Option.some.injEq] at this
    rw [this, e1]
  · have hm : d.toList[i] ∈ L := hperm.mem_iff.1 (List.getElem_mem hid)
    obtain ⟨q, hq, e3⟩ := List.getElem_of_mem hm
    obtain ⟨s', x', k1, k2, k3, k4⟩ := hLe q d.toList[i] (by rw [← e3]; exact List.getElem?_eq_getElem hq)
    have hk : ks.getD q [] = ks.getD j [] := by
      have := congrArg (·[i]?) heq
      simp only [List.getElem?_map, hj, List.getElem?_eq_getElem hid, Option.map_some, Option.some.injEq] at this
      rw [← this, k3, List.getD_eq_getElem?_getD, k1]; rfl
    have hqj := key_inj hnd (by rw [← hL]; exact hq) hjn hk
    subst hqj
    rw [List.getD_eq_getElem?_getD, k2] at e2
    obtain rfl : x' = x := e2
    exact k4
/-- A row of entries of one's own, its cells. -/
def flatE (L : List En) : List Value := L.flatMap En.enc
theorem flatE_len (L : List En) : (flatE L).length = L.length * 5 := by
  induction L with
  | nil => rfl
  | cons e r ih => rw [flatE, List.flatMap_cons, List.length_append, show r.flatMap En.enc = flatE r from rfl, ih, List.length_cons, show e.enc.length = 5 from rfl]; omega
theorem flatE_at : ∀ (L : List En) (i j : Nat) (e : En) (u : Value), L[i]? = some e → e.enc[j]? = some u → (flatE L)[i * 5 + j]? = some u
  | [], i, _, _, _, h, _ => by simp at h
  | f :: r, 0, j, e, u, h, hu => by
    obtain rfl : f = e := by simpa using h
    have hj : j < f.enc.length := (List.getElem?_eq_some_iff.1 hu).1
    rw [flatE, List.flatMap_cons, Nat.zero_mul, Nat.zero_add, List.getElem?_append_left hj]; exact hu
  | f :: r, i + 1, j, e, u, h, hu => by
    have := flatE_at r i j e u (by simpa using h) hu
    rw [flatE, List.flatMap_cons, List.getElem?_append_right (by rw [show f.enc.length = 5 from rfl]; omega), show f.enc.length = 5 from rfl, show (i + 1) * 5 + j - 5 = i * 5 + j by omega]
    exact this
theorem flatE_app (L : List En) (e : En) : flatE (L ++ [e]) = flatE L ++ e.enc := by simp [flatE]
end Va
end Go.Proofs.YtnnlgodgaolkkaaGreatDoor
/- What landed of values: a map's entries, made and sorted. -/
namespace Go.Proofs.YtnnlgodgaolkkaaGreatDoor
open Go.RowKit
namespace Va
set_option maxRecDepth 100000

/-- Entries under way: so many, each with its key and its value. -/
def EW (w : World) (ok : Nat → Prop) (ks : List Bs) (l : List V) (L : List En) : Prop := ∀ (i : Nat) (e : En), L[i]? = some e → ∃ s x, ks[i]? = some s ∧ l[i]? = some x ∧ e.key = s ∧ Vk w ok e.val x
theorem EW.keep {w w' : World} {b : Nat} {ok : Nat → Prop} {ks : List Bs} {l : List V} {L : List En} (h : EW w ok ks l L) (hb : Below b w w') (ho : ∀ g, ok g → g < b) : EW w' ok ks l L := fun i e hi => by
  obtain ⟨s, x, h1, h2, h3, h4⟩ := h i e hi
  exact ⟨s, x, h1, h2, h3, h4.keep (fun g hg _ => hb.block g (ho g hg)) hb.size⟩
theorem EW.more {w : World} {k : Nat} {ok : Nat → Prop} {ks : List Bs} {l : List V} {L : List En} {e : En} (h : EW w ok ks l L) (hk : L.length = k) (he : ∃ s x, ks[k]? = some s ∧ l[k]? = some x ∧ e.key = s ∧ Vk w ok e.val x) : EW w ok ks l (L ++ [e]) := fun i f hi => by
  rcases Nat.lt_or_ge i L.length with h1 | h1
  · rw [List.getElem?_append_left h1] at hi
    exact h i f hi
  · have hi2 : i = k := by
      have := (List.getElem?_eq_some_iff.1 hi).1
      simp at this; omega
    rw [hi2, List.getElem?_append_right (by omega), hk, Nat.sub_self] at hi
    obtain rfl : e = f := by simpa using hi
    rw [hi2]; exact he
theorem En.one (e : En) : ∀ u ∈ e.enc, u.oneCell' = true := by
  intro u hu
  simp [En.enc] at hu
  rcases hu with rfl | rfl | rfl | rfl | rfl <;> rfl
theorem enc_cells {w : World} {e : En} : ∀ j u, e.enc[j]? = some u → (w.alloc (.cells e.enc.toArray 56)).cell? ((⟨w.heap.size, 0, none⟩ : Addr).add j) = some u := by
  intro j u hu
  rw [addAt, Nat.zero_add]
  have h := heap_alloc_new w (.cells e.enc.toArray 56)
  simp only [World.cell?, h]
  simpa using hu
theorem own_holdsK {w : World} {base g n c : Nat} {L : List En} (h : w.ownsRow base 56 5 (.slice (some ⟨g, 0, none⟩) n c) n (flatE L)) (hn : n = L.length) : Sort.HoldsK En.enc 5 w g 0 L.toArray := by
  subst hn
  rcases h.2 with ⟨h1, _⟩ | ⟨g', c', cur, h1, _, hg, _, _, _, h4⟩
  · cases h1
  · obtain ⟨rfl, rfl⟩ : g = g' ∧ c = c' := by simpa using h1
    intro j hj
    have hs : (Sort.flatK En.enc 5 L.toArray).size = L.length * 5 := by simp
    rw [hs] at hj
    have e1 : (Sort.flatK En.enc 5 L.toArray)[j]! = (flatE L)[j]'(by rw [flatE_len]; exact hj) := by
      rw [Sort.get_flatK _ _ _ j (by simpa using hj)]
      have hq : j / 5 < L.length := by omega
      have hm : j % 5 < (L[j / 5]).enc.length := by show _ < 5; omega
      have := flatE_at L (j / 5) (j % 5) L[j / 5] _ (List.getElem?_eq_getElem hq) (List.getElem?_eq_getElem hm)
      rw [show j / 5 * 5 + j % 5 = j by omega] at this
      have e2 := (List.getElem?_eq_some_iff.1 this).2
      rw [e2]
      simp [hq, hm]
    refine ⟨?_, by simp [World.frozen?, hg]⟩
    have e3 : (cur.toList.take (L.length * 5))[j]? = (flatE L)[j]? := by rw [h4]
    rw [List.getElem?_take_of_lt hj] at e3
    simp only [World.cell?, hg, Nat.zero_add]
    rw [← Array.getElem?_toList, e3, e1, List.getElem?_eq_getElem (by rw [flatE_len]; exact hj)]
    rfl
abbrev HoldsK9 (w : World) (g : Nat) (d : Array En) : Prop := Sort.HoldsK En.enc 5 w g 0 d
theorem holds_enc {w : World} {g : Nat} {d : Array En} (h : HoldsK9 w g d) {i j : Nat} {e : En} {u : Value} (he : d.toList[i]? = some e) (hu : e.enc[j]? = some u) : w.cell? ⟨g, i * 5 + j, none⟩ = some u := by
  have hi : i < d.size := by have := (List.getElem?_eq_some_iff.1 he).1; simpa using this
  have hj : j < 5 := (List.getElem?_eq_some_iff.1 hu).1
  have := (h (i * 5 + j) (by simp; omega)).1
  rw [Nat.zero_add, Sort.get_flatK _ _ _ _ (by omega), show (i * 5 + j) / 5 = i by omega, show (i * 5 + j) % 5 = j by omega] at this
  rw [this]
  have e1 : d[i]! = e := by
    rw [getElem!_pos d i hi]
    have := (List.getElem?_eq_some_iff.1 he).2
    simpa using this
  rw [e1]
  have e2 := (List.getElem?_eq_some_iff.1 hu)
  show some (id e.enc[j]!) = _
  rw [getElem!_pos e.enc j e2.1, e2.2]; rfl
theorem grown_sortK (w : World) (g n : Nat) (d : Array En) (os : Array Obj) : w.grownBy (sortWorldK En.enc 5 w g 0 n d os) (some g) := by
  refine ⟨rfl, rfl, rfl, size_sortWorldK_c En.enc 5 w g 0 n d os, fun k hk hne => ?_⟩
  unfold sortWorldK Sort.grow Sort.putRowK Sort.putRow Sort.mapBlock Sort.ahead
  have hk2 : k ≠ g := fun e => hne (by rw [e])
  show ((w.heap.modify g _) ++ os)[k]? = _
  rw [Array.getElem?_append_left (by rw [Array.size_modify]; exact hk), Array.getElem?_modify, if_neg (Ne.symm hk2)]
theorem heap_sortK {w : World} {g n : Nat} {os : Array Obj} {cur : Array Value} {e : TypeId} (d : Array En) (hb : w.heap[g]? = some (.cells cur e (0, 0))) : ∃ cur', (sortWorldK En.enc 5 w g 0 n d os).heap[g]? = some (.cells cur' e (0, 0)) := by
  have hg : g < w.heap.size := (Array.getElem?_eq_some_iff.1 hb).1
  refine ⟨Sort.putCells id 0 (Sort.flatK En.enc 5 d) cur, ?_⟩
  show ((w.heap.modify g _) ++ os)[g]? = _
  rw [Array.getElem?_append_left (by rw [Array.size_modify]; exact hg), Array.getElem?_modify, if_pos rfl, hb]
  rfl
end Va
end Go.Proofs.YtnnlgodgaolkkaaGreatDoor
