/- What landed of values: two rows of entries held against one another. -/
import Derived.Test.YtggeiajbcehkjaaGreatDoorGba
import Derived.Test.YtggeiajbcehkjaaGreatDoorGay
import Derived.OwnWalk
import Derived.Deep.DeepAppendRoom
namespace Go.Proofs.YtggeiajbcehkjaaGreatDoor
open Go.RowKit
namespace Va
set_option maxRecDepth 100000

set_option maxHeartbeats 4000000 in
theorem cmpE_any {l l' : List (Bs × V)} {A A' : Option Addr} {c c' : Nat} (f : (Bs × V) → (Bs × V) → Ordering) (w : World) (hV : Er w (fun _ => True) A l) (hV' : Er w (fun _ => True) A' l') (hn : l.length ≤ 1000000) (hn' : l'.length ≤ 1000000)
    (H : ∀ (i : Nat) (s : Bs) (x : V) (s' : Bs) (y : V) (e e' : En) (w' : World), l[i]? = some (s, x) → l'[i]? = some (s', y) → e.key = s → e'.key = s' → Vm w' e.val x → Vm w' e'.val y → Below w.heap.size w w' → Calls Tryz.prog 87 #[.agg e.enc.toArray, .agg e'.enc.toArray] w' fun r w'' => r = .returned (.int .i64 (oN (f (s, x) (s', y)))) ∧ Below w'.heap.size w' w'') :
    Calls Tryz.prog 85 #[.slice A l.length c, .slice A' l'.length c', .func (.func 87) #[] #[]] w fun e w' => e = .returned (.int .i64 (oN (cmpG f l l'))) ∧ Below w.heap.size w w' := by
  obtain ⟨R, hR⟩ : ∃ R, R = oN (cmpG f l l') := ⟨_, rfl⟩
  rw [← hR]
  obtain ⟨n, HN⟩ : ∃ n, Hid (n = l.length) := ⟨_, Lib.hid rfl⟩
  obtain ⟨n', HN'⟩ : ∃ n, Hid (n = l'.length) := ⟨_, Lib.hid rfl⟩
  rw [← HN.out] at hn ⊢
  rw [← HN'.out] at hn' ⊢
  have HV := Lib.hid hV
  have HV' := Lib.hid hV'
  have HH := Lib.hid H
  have HR := Lib.hid hR
  clear hV hV' H hR
  go_enter Tryz.func85, Tryz.ntmps85
  go_wp2_with fail
  go_loopw [7, 8, 9, 10, 13] (fun _ _ _ _ i wx => Hid (Below w.heap.size w wx) ∧ ∃ k : Nat, k ≤ n ∧ i = .int .i64 k ∧ Hid (oN (cmpG f (l.drop k) (l'.drop k)) = R)) (fun _ _ _ _ i _ => n - (intOf i).toNat)
  case atStart => exact ⟨Lib.hid (Below.refl _ _), 0, Nat.zero_le _, rfl, Lib.hid (by rw [HR.out, List.drop_zero, List.drop_zero])⟩
  case round =>
    obtain ⟨HB, k, hk, rfl, HQ⟩ := hrel
    by_cases hlt : k < n
    · obtain ⟨⟨s, x⟩, hx⟩ := get_lt (l := l) (i := k) (by rw [← HN.out]; exact hlt)
      obtain ⟨g, o, rfl, hg0, hf⟩ := HV.out (by rw [← HN.out]; omega)
      have hg := lt_of_row hg0
      obtain ⟨e1, hek, hvm, hf5⟩ := hf k s x hx
      obtain ⟨d0, d1, d2, d3, d4⟩ := En.five (o := o + k * 5) hf5
      have c0 := cell_old HB.out hg d0
      have c1 := cell_old HB.out hg d1
      have c2 := cell_old HB.out hg d2
      have c3 := cell_old HB.out hg d3
      have c4 := cell_old HB.out hg d4
      obtain ⟨S, hS⟩ : ∃ S, S = txt e1.key := ⟨_, rfl⟩
      rw [← hS] at c0
      by_cases hlt' : k < n'
      · obtain ⟨⟨s', y⟩, hy⟩ := get_lt (l := l') (i := k) (by rw [← HN'.out]; exact hlt')
        obtain ⟨g', o', rfl, hg0', hf'⟩ := HV'.out (by rw [← HN'.out]; omega)
        have hg' := lt_of_row hg0'
        obtain ⟨e2, hek', hvm', hf5'⟩ := hf' k s' y hy
        obtain ⟨d0', d1', d2', d3', d4'⟩ := En.five (o := o' + k * 5) hf5'
        have HB1 := Lib.hid (below_tr HB.out (below_new wr (eO (.string S) (.int .u8 e1.kd) (.string e1.tx) (.slice e1.A e1.n e1.c) (.slice e1.B e1.m e1.d))))
        obtain ⟨T, hT⟩ : ∃ T, T = txt e2.key := ⟨_, rfl⟩
        rw [← hT] at d0'
        have c0' := cell_old HB1.out hg' d0'
        have c1' := cell_old HB1.out hg' d1'
        have c2' := cell_old HB1.out hg' d2'
        have c3' := cell_old HB1.out hg' d3'
        have c4' := cell_old HB1.out hg' d4'
        have HE := Lib.hid (cmpG_drop (f := f) hx hy)
        have CH := Lib.hid (fun (w' : World) (hb : Below w.heap.size w w') => by
          have := HH.out k s x s' y e1 e2 w' hx hy hek hek' (hvm.on hb) (hvm'.on hb) hb
          rw [En.enc, En.enc, ← hS, ← hT] at this
          exact this)
        obtain ⟨z, HZ⟩ : ∃ z, Hid (z = f (s, x) (s', y)) := ⟨_, Lib.hid rfl⟩
        rw [← HZ.out] at HE CH
        clear hg0 hg0' d0 d1 d2 d3 d4 hvm hf hx d0' d1' d2' d3' d4' hvm' hf' hf5 hf5' hy HZ hS hT hek hek'
        go_wp2_with fail
        refine (CH.out _ (below_tr HB1.out (below_new ..))).mono ?_
        rintro e w2 ⟨rfl, hb2⟩
        have HB2 := Lib.hid (below_tr (below_tr HB1.out (below_new ..)) hb2)
        clear hb2 c0 c1 c2 c3 c4 c0' c1' c2' c3' c4'
        cases z with
        | lt =>
          have HF := Lib.hid (show R = -1 from by rw [← HQ.out, HE.out]; rfl)
          clear HQ HE
          show _
          simp only [oN]
          go_wp2_with fail
          go_ret
          exact ⟨ret_int HF.out.symm, HB2.out⟩
        | gt =>
          have HF := Lib.hid (show R = 1 from by rw [← HQ.out, HE.out]; rfl)
          clear HQ HE
          simp only [oN]
          go_wp2_with fail
          go_ret
          exact ⟨ret_int HF.out.symm, HB2.out⟩
        | eq =>
          have HF := Lib.hid (show oN (cmpG f (l.drop (k + 1)) (l'.drop (k + 1))) = R from by rw [← HQ.out, HE.out]; rfl)
          clear HQ HE
          simp only [oN]
          go_wp2_with fail
          go_roundw
          case rel => exact ⟨HB2, k + 1, by omega, by go_num, HF⟩
          case measure => simp [intOf]; omega
      · have HF := Lib.hid (show R = 1 from by rw [← HQ.out, cmpG_gt (by rw [← HN.out]; exact hlt) (by rw [← HN'.out]; omega)]; rfl)
        have HB1 := Lib.hid (below_tr HB.out (below_new wr (eO (.string S) (.int .u8 e1.kd) (.string e1.tx) (.slice e1.A e1.n e1.c) (.slice e1.B e1.m e1.d))))
        clear hg0 d0 d1 d2 d3 d4 hvm hf hf5 hx HQ hS hek
        go_wp2_with fail
        go_ret
        exact ⟨ret_int HF.out.symm, HB1.out⟩
    · have e := cmpG_end (f := f) (l' := l') (show l.length ≤ k by rw [← HN.out]; omega)
      rw [← HN'.out] at e
      obtain rfl : k = n := by omega
      by_cases h9 : k < n'
      · have HF := Lib.hid (show R = -1 from by rw [← HQ.out, e, if_pos h9]; rfl)
        have h8 : (k : Int) < (n' : Int) := by omega
        clear HQ e
        go_wp2_with fail
        go_ret
        exact ⟨ret_int HF.out.symm, HB.out⟩
      · have HF := Lib.hid (show R = 0 from by rw [← HQ.out, e, if_neg h9]; rfl)
        have h8 : ¬ (k : Int) < (n' : Int) := by omega
        clear HQ e
        go_wp2_with fail
        go_ret
        exact ⟨ret_int HF.out.symm, HB.out⟩
end Va
end Go.Proofs.YtggeiajbcehkjaaGreatDoor
/- What landed of values: a map's entries in the order of their keys, as lists; rows of entries of one's own. -/
namespace Go.Proofs.YtggeiajbcehkjaaGreatDoor
open Go.RowKit
namespace Va
set_option maxRecDepth 100000

/-- A map's entries, in the order of its keys. -/
def entL (l : List V) (ks : List Bs) : List (Bs × V) := (ord ks ks.length).map fun j => (ks.getD j [], l.getD j v0)
theorem entL_len (l : List V) (ks : List Bs) : (entL l ks).length = ks.length := by rw [entL, List.length_map, ord_len]
/-- How entries stand by their keys. -/
def cfE (e f : En) : Int := oN (bcmp e.key f.key)
theorem ltE (e f : En) : ltOf cfE e f = bl e.key f.key := by
  unfold ltOf cfE
  cases h : bl e.key f.key with
  | true => exact decide_eq_true (oN_lt.2 (bcmp_lt.2 h))
  | false => exact decide_eq_false fun h2 => by rw [bcmp_lt.1 (oN_lt.1 h2)] at h; cases h
theorem swoE : Sort.SWO (ltOf cfE) where
  irrefl x := by rw [ltE, bl_irr]
  trans x y z h1 h2 := by rw [ltE] at *; exact bl_tr h1 h2
  ntrans x y z h1 h2 := by
    rw [ltE] at *
    cases h : bl x.key z.key with
    | false => rfl
    | true =>
      cases h3 : bl z.key y.key with
      | true => have := bl_tr h h3; rw [h1] at this; cases this
      | false => have e := bl_tot h3 h2; rw [e] at h; rw [h] at h1; cases h1
theorem sorted_row {ks : List Bs} {l : List V} {L : List En} {d : Array En} (P : En → V → Prop) (_hkl : ks.length = l.length) (hnd : ks.Nodup) (hL : L.length = ks.length)
    (hLe : ∀ (i : Nat) (e : En), L[i]? = some e → ∃ s x, ks[i]? = some s ∧ l[i]? = some x ∧ e.key = s ∧ P e x)
    (hp : Sort.PermIn 0 L.toArray.size L.toArray d) (hs : Sort.SortedIn (ltOf cfE) 0 L.toArray.size d) :
    d.size = ks.length ∧ ∀ (i : Nat) (s : Bs) (x : V), (entL l ks)[i]? = some (s, x) → ∃ e, d.toList[i]? = some e ∧ e.key = s ∧ P e x := by
  obtain ⟨h1, _, h3⟩ := hp
  have hds : d.size = L.length := by rw [h1]; simp
  have hperm : d.toList.Perm L := by
    have e1 : (d.extract 0 L.toArray.size).toList = d.toList := by rw [show L.toArray.size = d.size by rw [hds]; simp]; simp
    have e2 : (L.toArray.extract 0 L.toArray.size).toList = L := by simp
    rw [e1, e2] at h3; exact h3
  have hkeys : L.map En.key = ks := by
    apply List.ext_getElem
    · simp [hL]
    · intro i a b
      have hi : i < L.length := by simpa using a
      obtain ⟨s, x, k1, _, k3, _⟩ := hLe i L[i] (List.getElem?_eq_getElem hi)
      rw [List.getElem_map, k3]
      have := (List.getElem?_eq_some_iff.1 k1).2
      exact this.symm
  have hkp : (d.toList.map En.key).Perm ks := by rw [← hkeys]; exact hperm.map _
  have hkn : (d.toList.map En.key).Nodup := hkp.nodup_iff.2 hnd
  have hup : (d.toList.map En.key).Pairwise fun x y => bl x y = true := by
    rw [List.pairwise_iff_getElem]
    intro i j hi hj hij
    rw [List.length_map] at hi hj
    have hi' : i < d.size := by simpa using hi
    have hj' : j < d.size := by simpa using hj
    have := hs i j (Nat.zero_le _) hij (by rw [← h1]; exact hj')
    rw [ltE, getElem!_pos d j hj', getElem!_pos d i hi'] at this
    rw [List.getElem_map, List.getElem_map, Array.getElem_toList, Array.getElem_toList]
    cases h : bl d[i].key d[j].key with
    | true => rfl
    | false =>
      have e := bl_tot h this
      have := List.pairwise_iff_getElem.1 hkn i j (by simpa using hi) (by simpa using hj) hij
      rw [List.getElem_map, List.getElem_map, Array.getElem_toList, Array.getElem_toList] at this
      exact absurd e this
  have heq : d.toList.map En.key = (ord ks ks.length).map fun j => ks.getD j [] :=
    up_uniq hup (sorted_keys hnd) fun s => by rw [sorted_mem]; exact hkp.mem_iff
  refine ⟨by rw [hds, hL], fun i s x hi => ?_⟩
  have hin : i < ks.length := by have := (List.getElem?_eq_some_iff.1 hi).1; rwa [entL_len] at this
  have hid : i < d.toList.length := by rw [Array.length_toList, hds, hL]; exact hin
  rw [entL, List.getElem?_map] at hi
  obtain ⟨j, hj, e9⟩ := Option.map_eq_some_iff.1 hi
  have hjn := ord_mem.1 (List.mem_of_getElem? hj)
  have e1 : ks.getD j [] = s := congrArg Prod.fst e9
  have e2 : l.getD j v0 = x := congrArg Prod.snd e9
  refine ⟨d.toList[i], List.getElem?_eq_getElem hid, ?_, ?_⟩
  · have := congrArg (·[i]?) heq
    simp only [List.getElem?_map, hj, List.getElem?_eq_getElem hid, Option.map_some, Option.some.injEq] at this
    rw [this, e1]
  · have hm : d.toList[i] ∈ L := hperm.mem_iff.1 (List.getElem_mem hid)
    obtain ⟨q, hq, e3⟩ := List.getElem_of_mem hm
    obtain ⟨s', x', k1, k2, k3, k4⟩ := hLe q d.toList[i] (by rw [← e3]; exact List.getElem?_eq_getElem hq)
    have hk : ks.getD q [] = ks.getD j [] := by
      have := congrArg (·[i]?) heq
      simp only [List.getElem?_map, hj, List.getElem?_eq_getElem hid, Option.map_some, Option.some.injEq] at this
      rw [← this, k3, List.getD_eq_getElem?_getD, k1]; rfl
    have hqj := key_inj hnd (by rw [← hL]; exact hq) hjn hk
    subst hqj
    rw [List.getD_eq_getElem?_getD, k2] at e2
    obtain rfl : x' = x := e2
    exact k4
/-- A row of entries of one's own, its cells. -/
def flatE (L : List En) : List Value := L.flatMap En.enc
theorem flatE_len (L : List En) : (flatE L).length = L.length * 5 := by
  induction L with
  | nil => rfl
  | cons e r ih => rw [flatE, List.flatMap_cons, List.length_append, show r.flatMap En.enc = flatE r from rfl, ih, List.length_cons, show e.enc.length = 5 from rfl]; omega
theorem flatE_at : ∀ (L : List En) (i j : Nat) (e : En) (u : Value), L[i]? = some e → e.enc[j]? = some u → (flatE L)[i * 5 + j]? = some u
  | [], i, _, _, _, h, _ => by simp at h
  | f :: r, 0, j, e, u, h, hu => by
    obtain rfl : f = e := by simpa using h
    have hj : j < f.enc.length := (List.getElem?_eq_some_iff.1 hu).1
    rw [flatE, List.flatMap_cons, Nat.zero_mul, Nat.zero_add, List.getElem?_append_left hj]; exact hu
  | f :: r, i + 1, j, e, u, h, hu => by
    have := flatE_at r i j e u (by simpa using h) hu
    rw [flatE, List.flatMap_cons, List.getElem?_append_right (by rw [show f.enc.length = 5 from rfl]; omega), show f.enc.length = 5 from rfl, show (i + 1) * 5 + j - 5 = i * 5 + j by omega]
    exact this
theorem flatE_app (L : List En) (e : En) : flatE (L ++ [e]) = flatE L ++ e.enc := by simp [flatE]
end Va
end Go.Proofs.YtggeiajbcehkjaaGreatDoor
/- What landed of values: a map's entries, made and sorted. -/
namespace Go.Proofs.YtggeiajbcehkjaaGreatDoor
open Go.RowKit
namespace Va
set_option maxRecDepth 100000

/-- Entries under way: so many, each with its key and its value. -/
def EW (w : World) (ok : Nat → Prop) (ks : List Bs) (l : List V) (L : List En) : Prop := ∀ (i : Nat) (e : En), L[i]? = some e → ∃ s x, ks[i]? = some s ∧ l[i]? = some x ∧ e.key = s ∧ Vk w ok e.val x
theorem EW.keep {w w' : World} {b : Nat} {ok : Nat → Prop} {ks : List Bs} {l : List V} {L : List En} (h : EW w ok ks l L) (hb : Below b w w') (ho : ∀ g, ok g → g < b) : EW w' ok ks l L := fun i e hi => by
  obtain ⟨s, x, h1, h2, h3, h4⟩ := h i e hi
  exact ⟨s, x, h1, h2, h3, h4.keep (fun g hg _ => hb.block g (ho g hg)) hb.size⟩
theorem EW.more {w : World} {k : Nat} {ok : Nat → Prop} {ks : List Bs} {l : List V} {L : List En} {e : En} (h : EW w ok ks l L) (hk : L.length = k) (he : ∃ s x, ks[k]? = some s ∧ l[k]? = some x ∧ e.key = s ∧ Vk w ok e.val x) : EW w ok ks l (L ++ [e]) := fun i f hi => by
  rcases Nat.lt_or_ge i L.length with h1 | h1
  · rw [List.getElem?_append_left h1] at hi
    exact h i f hi
  · have hi2 : i = k := by
      have := (List.getElem?_eq_some_iff.1 hi).1
      simp at this; omega
    rw [hi2, List.getElem?_append_right (by omega), hk, Nat.sub_self] at hi
    obtain rfl : e = f := by simpa using hi
    rw [hi2]; exact he
theorem En.one (e : En) : ∀ u ∈ e.enc, u.oneCell' = true := by
  intro u hu
  simp [En.enc] at hu
  rcases hu with rfl | rfl | rfl | rfl | rfl <;> rfl
theorem enc_cells {w : World} {e : En} : ∀ j u, e.enc[j]? = some u → (w.alloc (.cells e.enc.toArray 127)).cell? ((⟨w.heap.size, 0, none⟩ : Addr).add j) = some u := by
  intro j u hu
  rw [addAt, Nat.zero_add]
  have h := heap_alloc_new w (.cells e.enc.toArray 127)
  simp only [World.cell?, h]
  simpa using hu
theorem own_holdsK {w : World} {base g n c : Nat} {L : List En} (h : w.ownsRow base 127 5 (.slice (some ⟨g, 0, none⟩) n c) n (flatE L)) (hn : n = L.length) : Sort.HoldsK En.enc 5 w g 0 L.toArray := by
  subst hn
  rcases h.2 with ⟨h1, _⟩ | ⟨g', c', cur, h1, _, hg, _, _, _, h4⟩
  · cases h1
  · obtain ⟨rfl, rfl⟩ : g = g' ∧ c = c' := by simpa using h1
    intro j hj
    have hs : (Sort.flatK En.enc 5 L.toArray).size = L.length * 5 := by simp
    rw [hs] at hj
    have e1 : (Sort.flatK En.enc 5 L.toArray)[j]! = (flatE L)[j]'(by rw [flatE_len]; exact hj) := by
      rw [Sort.get_flatK _ _ _ j (by simpa using hj)]
      have hq : j / 5 < L.length := by omega
      have hm : j % 5 < (L[j / 5]).enc.length := by show _ < 5; omega
      have := flatE_at L (j / 5) (j % 5) L[j / 5] _ (List.getElem?_eq_getElem hq) (List.getElem?_eq_getElem hm)
      rw [show j / 5 * 5 + j % 5 = j by omega] at this
      have e2 := (List.getElem?_eq_some_iff.1 this).2
      rw [e2]
      simp [hq, hm]
    refine ⟨?_, by simp [World.frozen?, hg]⟩
    have e3 : (cur.toList.take (L.length * 5))[j]? = (flatE L)[j]? := by rw [h4]
    rw [List.getElem?_take_of_lt hj] at e3
    simp only [World.cell?, hg, Nat.zero_add]
    rw [← Array.getElem?_toList, e3, e1, List.getElem?_eq_getElem (by rw [flatE_len]; exact hj)]
    rfl
abbrev HoldsK9 (w : World) (g : Nat) (d : Array En) : Prop := Sort.HoldsK En.enc 5 w g 0 d
theorem holds_enc {w : World} {g : Nat} {d : Array En} (h : HoldsK9 w g d) {i j : Nat} {e : En} {u : Value} (he : d.toList[i]? = some e) (hu : e.enc[j]? = some u) : w.cell? ⟨g, i * 5 + j, none⟩ = some u := by
  have hi : i < d.size := by have := (List.getElem?_eq_some_iff.1 he).1; simpa using this
  have hj : j < 5 := (List.getElem?_eq_some_iff.1 hu).1
  have := (h (i * 5 + j) (by simp; omega)).1
  rw [Nat.zero_add, Sort.get_flatK _ _ _ _ (by omega), show (i * 5 + j) / 5 = i by omega, show (i * 5 + j) % 5 = j by omega] at this
  rw [this]
  have e1 : d[i]! = e := by
    rw [getElem!_pos d i hi]
    have := (List.getElem?_eq_some_iff.1 he).2
    simpa using this
  rw [e1]
  have e2 := (List.getElem?_eq_some_iff.1 hu)
  show some (id e.enc[j]!) = _
  rw [getElem!_pos e.enc j e2.1, e2.2]; rfl
theorem grown_sortK (w : World) (g n : Nat) (d : Array En) (os : Array Obj) : w.grownBy (sortWorldK En.enc 5 w g 0 n d os) (some g) := by
  refine ⟨rfl, rfl, rfl, size_sortWorldK_c En.enc 5 w g 0 n d os, fun k hk hne => ?_⟩
  unfold sortWorldK Sort.grow Sort.putRowK Sort.putRow Sort.mapBlock Sort.ahead
  have hk2 : k ≠ g := fun e => hne (by rw [e])
  show ((w.heap.modify g _) ++ os)[k]? = _
  rw [Array.getElem?_append_left (by rw [Array.size_modify]; exact hk), Array.getElem?_modify, if_neg (Ne.symm hk2)]
theorem heap_sortK {w : World} {g n : Nat} {os : Array Obj} {cur : Array Value} {e : TypeId} (d : Array En) (hb : w.heap[g]? = some (.cells cur e (0, 0))) : ∃ cur', (sortWorldK En.enc 5 w g 0 n d os).heap[g]? = some (.cells cur' e (0, 0)) := by
  have hg : g < w.heap.size := (Array.getElem?_eq_some_iff.1 hb).1
  refine ⟨Sort.putCells id 0 (Sort.flatK En.enc 5 d) cur, ?_⟩
  show ((w.heap.modify g _) ++ os)[g]? = _
  rw [Array.getElem?_append_left (by rw [Array.size_modify]; exact hg), Array.getElem?_modify, if_pos rfl, hb]
  rfl
end Va
end Go.Proofs.YtggeiajbcehkjaaGreatDoor
/- What landed of values: a map's entries. -/
namespace Go.Proofs.YtggeiajbcehkjaaGreatDoor
open Go.RowKit
namespace Va
set_option maxRecDepth 100000

set_option maxHeartbeats 4000000 in
theorem entries_any {ok : Nat → Prop} {t : Bs} {l : List V} {ks : List Bs} {v : Value} (w : World) (hv : Vk w ok v (.mk 8 t l ks)) (hkl : ks.length = l.length) (hnd : ks.Nodup) (hn : ks.length ≤ 1000000) :
    Calls Tryz.prog 86 #[v] w fun e w' => (∃ A c, e = .returned (.slice A ks.length c) ∧ Er w' ok A (entL l ks)) ∧ Below w.heap.size w w' := by
  obtain ⟨i0, hi, hz0, hz1, hz2⟩ := info_parts (show (Tryz.prog.info? 127).map (fun i => (i.zero, i.size, i.bytes)) = some (some (.agg #[.string ⟨#[]⟩, .int .u8 0, .string ⟨#[]⟩, .slice none 0 0, .slice none 0 0]), 5, 88) by kernel_rfl)
  obtain ⟨A, B, c, d, rfl, hk, hV, hK⟩ := hv.invo
  obtain ⟨T, hT⟩ : ∃ T, T = txt t := ⟨_, rfl⟩
  obtain ⟨n, HN⟩ : ∃ n, Hid (n = l.length) := ⟨_, Lib.hid rfl⟩
  obtain ⟨m, HM⟩ : ∃ m, Hid (m = ks.length) := ⟨_, Lib.hid rfl⟩
  rw [← HN.out, ← hT]
  rw [← HM.out] at hn ⊢
  have HMN := Lib.hid (show m = n by rw [HM.out, HN.out, hkl])
  have HK := Lib.hid hK
  have HV := Lib.hid hV
  have HND := Lib.hid hnd
  have HKL := Lib.hid hkl
  clear hK hV hnd hkl hT hv
  obtain ⟨W1, hW1⟩ : ∃ W, W = w.alloc (vO (.int .u8 (8 : Nat)) (.string T) (.slice A n c) (.slice B m d)) := ⟨_, rfl⟩
  have hb1 : Below w.heap.size w W1 := by rw [hW1]; exact below_new ..
  have HX := Lib.hid (show Bx W1 w.heap.size (.int .u8 (8 : Nat)) (.string T) (.slice A n c) (.slice B m d) from by rw [hW1]; exact Bx.new ..)
  have HB1 := Lib.hid hb1
  have HW1 := Lib.hid hW1
  clear hb1 hW1
  go_enter Tryz.func86, Tryz.ntmps86
  go_upto_region 1 with fail
  rw [show (Value.int .u8 8) = .int .u8 ((8 : Nat) : Int) from rfl, ← HW1.out]
  obtain ⟨h, hh⟩ : ∃ h, h = w.heap.size := ⟨_, rfl⟩
  rw [← hh] at HX ⊢
  have HHL := Lib.hid (show w.heap.size ≤ W1.heap.size from HB1.out.size)
  have HHH := Lib.hid hh
  clear HW1 hh
  obtain ⟨x2, x3⟩ : W1.cell? ⟨h, 2, none⟩ = some (.slice A n c) ∧ W1.cell? ⟨h, 3, none⟩ = some (.slice B m d) := ⟨HX.out.c2, HX.out.c3⟩
  go_upto_region 2 with (at_make; refine wpList_make_own _ rfl _ _ 125 rfl W1.heap.size 127 i0 _ 5 Tryz.underlying125 hi hz0 hz1 .i64 .i64 _ m rfl rfl rfl (by rw [hz2]; omega) (by unfold maxLen; omega) (Nat.le_refl _) ?_; intro w1 hown1 hg1)
  have HB2 := Lib.hid (show Below W1.heap.size W1 w1 from (Below.refl _ _).grown hg1 (Nat.le_refl _) (fun _ h => by cases h))
  have y2 := cell_old HB2.out HX.out.lt x2
  have y3 := cell_old HB2.out HX.out.lt x3
  have HOWN := Lib.hid hown1
  obtain ⟨g, hg⟩ : ∃ g, g = W1.heap.size := ⟨_, rfl⟩
  have HX2 := Lib.hid (HX.out.on HB2.out)
  have HHG := Lib.hid (show h < g from by rw [hg]; exact HX.out.lt)
  rw [← hg] at HOWN ⊢
  have HG := Lib.hid hg
  clear hown1 hg1 x2 x3 hg
  go_wp2_with fail
  go_loopw [3, 4, 5, 13] (fun a _ _ i wx => Hid (Below W1.heap.size W1 wx) ∧ ∃ (k : Nat) (L : List En), k ≤ m ∧ i = .int .i64 k ∧ a = .slice (some ⟨g, 0, none⟩) k m ∧ Hid (L.length = k ∧ wx.ownsRow W1.heap.size 127 5 (.slice (some ⟨g, 0, none⟩) k m) k (flatE L) ∧ EW wx (fun q => ok q ∧ q < W1.heap.size) ks l L)) (fun _ _ _ i _ => m - (intOf i).toNat)
  case atStart => exact ⟨HB2, 0, [], Nat.zero_le _, rfl, rfl, Lib.hid ⟨rfl, by rw [← HG.out]; exact HOWN.out, fun i e h => by simp at h⟩⟩
  case round =>
    obtain ⟨HB, k, L, hk9, rfl, rfl, HQ⟩ := hrel
    have X := HX.out.on HB.out
    have z2 := X.c2
    have z3 := X.c3
    clear X y2 y3
    by_cases hlt : k < m
    · obtain ⟨s, hs⟩ := get_lt (l := ks) (i := k) (by rw [← HM.out]; exact hlt)
      obtain ⟨x, hx⟩ := get_lt (l := l) (i := k) (by rw [← HN.out, ← HMN.out]; exact hlt)
      obtain ⟨g1, o1, rfl, hg1, hf1⟩ := HK.out (by rw [← HM.out]; omega)
      obtain ⟨g2, o2, rfl, hg2, _, hf2⟩ := HV.out (by rw [← HN.out, ← HMN.out]; omega)
      obtain ⟨v0, v1, v2, v3, d0, d1, d2, d3, hvm⟩ := hf2 k x hx
      obtain ⟨uk, ut, uA, uB, un, uc, um, ud, rfl, rfl, rfl, rfl⟩ := vshp hvm.vm
      have hbb := below_tr HB1.out HB.out
      have c5 := cell_old hbb hg1 (hf1 k s hs)
      obtain ⟨S, hS⟩ : ∃ S, S = txt s := ⟨_, rfl⟩
      rw [← hS] at c5
      have c0 := cell_old hbb hg2 d0
      have c1 := cell_old hbb hg2 d1
      have c2 := cell_old hbb hg2 d2
      have c3 := cell_old hbb hg2 d3
      have hkn : k < n := by rw [← HMN.out]; exact hlt
      have HE := Lib.hid (show ∀ w2 : World, Below w.heap.size w w2 → ∃ s' x', ks[k]? = some s' ∧ l[k]? = some x' ∧ (En.mk s uk ut uA un uc uB um ud).key = s' ∧ Vk w2 (fun q => ok q ∧ q < W1.heap.size) (En.mk s uk ut uA un uc uB um ud).val x' from fun w2 hb => ⟨s, x, hs, hx, rfl, (Vk.to hvm (fun q hq h9 => ⟨h9, Nat.lt_of_lt_of_le hq HHL.out⟩)).on hb⟩)
      have HSS := Lib.hid hS
      clear hbb hs hx hf1 hf2 d0 d1 d2 d3 hvm hS
      have hown := HQ.out.2.1
      go_upto_region 6 with (at_builtin; refine wpList_append_own_spare _ rfl (.tmp 18) (.tmp 26) 125 rfl W1.heap.size 127 i0 5 Tryz.underlying125 hi hz1 g k m (flatE L) rfl (hown.alloc _) ⟨wr.heap.size, 0, none⟩ 1 1 (En.mk s uk ut uA un uc uB um ud).enc rfl rfl (by have := enc_cells (w := wr) (e := En.mk s uk ut uA un uc uB um ud); rw [show (En.mk s uk ut uA un uc uB um ud).enc.toArray = #[.string (txt s), .int .u8 uk, .string ut, .slice uA un uc, .slice uB um ud] from rfl, ← HSS.out] at this; exact this) (En.one _) (by omega) ?_; intro w2 hown2 hgr2)
      have HB2 := Lib.hid (show Below W1.heap.size W1 w2 from (HB.out.alloc HB.out.size _).grown hgr2 (by have := HB.out.size; simp; omega) (fun _ e => by cases e; rw [HG.out]; exact Nat.le_refl _))
      have hb3 : Below W1.heap.size wr w2 := ((Below.refl _ _).alloc HB.out.size _).grown hgr2 (by have := HB.out.size; simp; omega) (fun _ e => by cases e; rw [HG.out]; exact Nat.le_refl _)
      have HEW := Lib.hid (show (L ++ [En.mk s uk ut uA un uc uB um ud]).length = k + 1 ∧ w2.ownsRow W1.heap.size 127 5 (.slice (some ⟨g, 0, none⟩) (k + 1) m) (k + 1) (flatE (L ++ [En.mk s uk ut uA un uc uB um ud])) ∧ EW w2 (fun q => ok q ∧ q < W1.heap.size) ks l (L ++ [En.mk s uk ut uA un uc uB um ud]) from by
        exact ⟨by rw [List.length_append, HQ.out.1]; rfl, by rw [flatE_app]; exact hown2, (HQ.out.2.2.keep hb3 (fun _ h9 => h9.2)).more HQ.out.1 (HE.out w2 (below_tr HB1.out HB2.out))⟩)
      clear hown2 hgr2 hown HQ hb3 c0 c1 c2 c3 c5
      go_wp2_with fail
      go_roundw
      case rel => exact ⟨HB2, k + 1, _, by omega, by go_num, by first | rfl | trivial, HEW⟩
      case measure => simp [intOf]; omega
    · obtain rfl : k = m := by omega
      have hsz : L.toArray.size = k := by simpa using HQ.out.1
      have hrow : ∃ cur, wr.heap[g]? = some (.cells cur 127 (0, 0)) := by
        rcases HQ.out.2.1.2 with ⟨e, _⟩ | ⟨g', c', cur, e, _, hg', _⟩
        · cases e
        · injection e with e1 _ _; injection e1 with e1; injection e1 with e1 _ _; subst e1
          exact ⟨cur, hg'⟩
      have hlt2 := lt_of_row hrow
      have HROW := Lib.hid hrow
      have hH := own_holdsK HQ.out.2.1 HQ.out.1.symm
      have CS := Lib.hid (AnyQ.slices_SortFunc Tryz.sortEn 5 Tryz.isAgg127 Tryz.sizeOf127 En.enc (fun _ => rfl) (fun x v hv => En.one x v hv) cfE swoE 113 #[] g 0 k L.toArray wr (enters_of Tryz.func113 (by kernel_rfl) rfl) (fun _ _ _ _ x y => byKey_any x y _) hH hlt2 (by rw [hsz]; omega))
      have CS : Hid (Calls Tryz.prog 112 #[.slice (some ⟨g, 0, none⟩) k k, .func (.func 113) #[] #[]] wr fun e w' => e = .returned (.tuple #[]) ∧ ∃ d' n os, Sort.PermIn 0 L.toArray.size L.toArray d' ∧ Sort.SortedIn (ltOf cfE) 0 L.toArray.size d' ∧ w' = sortWorldK En.enc 5 wr g 0 n d' os) := by
        have := CS.out
        rw [hsz] at this ⊢
        exact Lib.hid this
      have HH := Lib.hid hH
      have HLT := Lib.hid hlt2
      clear hsz hlt2 hH hrow
      go_wp2_with fail
      refine CS.out.mono ?_
      rintro e w2 ⟨rfl, d', q, os, hp, hs, rfl⟩
      have hG2 : HoldsK9 (sortWorldK En.enc 5 wr g 0 q d' os) g d' := holdsK_sortWorldK_c En.enc 5 wr g 0 L.toArray d' q os HH.out HLT.out hp.1
      have hB2 : Below W1.heap.size W1 (sortWorldK En.enc 5 wr g 0 q d' os) := HB.out.grown (grown_sortK wr g q d' os) (by have := HB.out.size; omega) (fun _ e => by cases e; rw [HG.out]; exact Nat.le_refl _)
      obtain ⟨w3, hw3⟩ : ∃ w3, w3 = sortWorldK En.enc 5 wr g 0 q d' os := ⟨_, rfl⟩
      rw [← hw3] at hG2 hB2 ⊢
      have hlt3 : ∃ cur, w3.heap[g]? = some (.cells cur 127 (0, 0)) := by
        obtain ⟨cur, h9⟩ := HROW.out
        rw [hw3]; exact heap_sortK d' h9
      have hE3 := HQ.out.2.2.keep (show Below W1.heap.size wr w3 from by rw [hw3]; exact (Below.refl _ _).grown (grown_sortK wr g q d' os) (by have := HB.out.size; omega) (fun _ e => by cases e; rw [HG.out]; exact Nat.le_refl _)) (fun _ h9 => h9.2)
      have HF := Lib.hid (show Er w3 ok (some ⟨g, 0, none⟩) (entL l ks) from fun h0 => by
        obtain ⟨h1, h2⟩ := sorted_row (fun e x => Vk w3 (fun q => ok q ∧ q < W1.heap.size) e.val x) HKL.out HND.out (by rw [HQ.out.1, HM.out]) hE3 hp hs
        refine ⟨g, 0, rfl, hlt3, fun i s x hi => ?_⟩
        obtain ⟨e, a1, a2, a3⟩ := h2 i s x hi
        exact ⟨e, a2, a3.to (fun _ _ h9 => h9.1), fun j u hj => by rw [Nat.zero_add]; exact holds_enc hG2 a1 hj⟩)
      have HB3 := Lib.hid (below_tr HB1.out hB2)
      clear hG2 hB2 hlt3 hE3 hw3 hp hs
      go_wp2_with fail
      go_ret
      exact ⟨⟨_, _, rfl, HF.out⟩, HB3.out⟩
end Va
end Go.Proofs.YtggeiajbcehkjaaGreatDoor
