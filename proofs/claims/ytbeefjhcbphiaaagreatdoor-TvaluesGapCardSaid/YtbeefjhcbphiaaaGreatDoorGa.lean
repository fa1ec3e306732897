/- What landed: the kind of parts; the normal form of parts. -/
import Derived.Test.YtbeefjhcbphiaaaGreatDoorHz
import Derived.Test.YtbeefjhcbphiaaaGreatDoorHy
import Derived.Test.YtbeefjhcbphiaaaGreatDoorHb
import Derived.Lib.AppendStr
import Derived.Lib.TrimByte
import Derived.Lib.Case
import Derived.OwnWalk
import Derived.Test.YtbeefjhcbphiaaaGreatDoorHx
namespace Go.Proofs.YtbeefjhcbphiaaaGreatDoor
open Go.RowKit
namespace Da

theorem data_txt {l : List UInt8} {s : ByteArray} (h : s = txt l) : s.data.toList = l := by rw [h]; rfl
theorem st0_trim (l : List UInt8) : Lib.trimRightB l 48 = st0 l := rfl
theorem trr_is {l : List UInt8} {s T : ByteArray} (w : World) (hs : s = txt l) (hl : l.length ≤ 1000000) (hT : T = txt (st0 l)) :
    Calls Tryz.prog 155 #[.string s, .string ⟨#[48]⟩] w fun e w' => e = .returned (.string T) ∧ w = w' := by
  refine (Tryz.strings_TrimRight_one s 48 (by decide) w (by rw [hs, txt_size]; omega)).mono ?_
  rintro e w' ⟨rfl, rfl⟩
  rw [data_txt hs, hT]
  exact ⟨rfl, rfl⟩
theorem drop0_app (a b : List UInt8) : (a ++ b).dropWhile (· == 48) = if a.dropWhile (· == 48) = [] then b.dropWhile (· == 48) else a.dropWhile (· == 48) ++ b := by
  induction a with
  | nil => simp
  | cons c a ih =>
    rw [List.cons_append, List.dropWhile_cons, List.dropWhile_cons]
    split
    · exact ih
    · simp
theorem st0_ft {F : List UInt8} (h : ft F) : st0 F = [46] ∨ ∃ ds, ds ≠ [] ∧ st0 F = 46 :: ds ∧ (∀ c ∈ ds, dg (c.toNat : Int) = true) ∧ ds.getLast? ≠ some 48 := by
  obtain ⟨ds, h1, rfl, h3⟩ := h
  unfold st0
  rw [List.reverse_cons, drop0_app]
  split
  · exact .inl rfl
  · rename_i hne
    obtain ⟨x, r, hx⟩ := List.exists_cons_of_ne_nil hne
    refine .inr ⟨((ds.reverse.dropWhile (· == 48))).reverse, by simpa using hne, by simp, fun c hc => h3 c ?_, ?_⟩
    · have : c ∈ ds.reverse := (List.dropWhile_sublist _).subset (List.mem_reverse.1 hc)
      exact List.mem_reverse.1 this
    · rw [List.getLast?_reverse, hx]
      have := List.head?_dropWhile_not (· == 48) ds.reverse
      rw [hx] at this
      simp at this ⊢
      exact this
theorem st0_nil : st0 [] = [] := rfl
theorem st0_len (l : List UInt8) : (st0 l).length ≤ l.length := by
  unfold st0
  rw [List.length_reverse]
  have := (List.dropWhile_sublist (· == 48) (l := l.reverse)).length_le
  rwa [List.length_reverse] at this
theorem suff_no {ds : List UInt8} (h1 : ds ≠ []) (h : ∀ c ∈ ds, dg (c.toNat : Int) = true) : Lib.hasSuffix (46 :: ds) [46] = false := by
  unfold Lib.hasSuffix
  cases hh : List.isSuffixOf [46] (46 :: ds)
  · rfl
  · obtain ⟨t, ht⟩ := List.isSuffixOf_iff_suffix.1 hh
    have e : (46 :: ds).getLast? = some 46 := by rw [← ht]; simp
    rw [List.getLast?_cons_of_ne_nil h1] at e
    have hm := List.mem_of_getLast? e
    have := h _ hm
    revert this; decide
theorem suf_is {F : List UInt8} (h : F = [] ∨ ft F) : Lib.trimSuffix (st0 F) [46] = stp F := by
  rcases h with rfl | h
  · rfl
  · rcases st0_ft h with h2 | ⟨ds, h1, h2, h3, _⟩
    · rw [stp, h2]; rfl
    · rw [stp, h2, if_neg (by intro e; injection e with _ e; exact h1 e), Lib.trimSuffix, suff_no h1 h3]; rfl
theorem stp_ft {F : List UInt8} (h : F = [] ∨ ft F) : stp F = [] ∨ ft (stp F) := by
  rcases h with rfl | h
  · exact .inl rfl
  · rcases st0_ft h with h2 | ⟨ds, h1, h2, h3, _⟩
    · rw [stp, h2]; exact .inl rfl
    · rw [stp, h2, if_neg (by intro e; injection e with _ e; exact h1 e)]
      exact .inr ⟨ds, h1, rfl, h3⟩
theorem tsf_is {F : List UInt8} {s T : ByteArray} (w : World) (hF : F = [] ∨ ft F) (hs : s = txt (st0 F)) (hl : F.length ≤ 1000000) (hT : T = txt (stp F)) :
    Calls Tryz.prog 154 #[.string s, .string ⟨#[46]⟩] w fun e w' => e = .returned (.string T) ∧ w = w' := by
  refine (Tryz.strings_TrimSuffix s ⟨#[46]⟩ w (by rw [hs, txt_size]; have := st0_len F; omega)).mono ?_
  rintro e w' ⟨rfl, rfl⟩
  rw [data_txt hs, show (⟨#[46]⟩ : ByteArray).data.toList = [46] from rfl, suf_is hF, hT]
  exact ⟨rfl, rfl⟩
theorem up_low : ∀ n, n < 256 → (n ≤ 58 ∨ n = 90 ∨ n = 122) → Lib.upperB (UInt8.ofNat n) = up (UInt8.ofNat n) := by
  have : (List.range 256).all (fun n => decide ((n ≤ 58 ∨ n = 90 ∨ n = 122) → Lib.upperB (UInt8.ofNat n) = up (UInt8.ofNat n))) = true := by decide +kernel
  intro n hn
  exact of_decide_eq_true ((List.all_eq_true.1 this) n (List.mem_range.2 hn))
theorem mem_bt {l : List UInt8} {c : UInt8} (h : c ∈ l) : ∃ k, k < l.length ∧ bt l k = (c.toNat : Int) := by
  obtain ⟨k, hk, rfl⟩ := List.mem_iff_getElem.1 h
  exact ⟨k, hk, by simp [bt, hk]⟩
theorem zt_bytes {Z : List UInt8} (h : zt Z) : ∀ c ∈ Z, c.toNat ≤ 58 ∨ c.toNat = 90 ∨ c.toNat = 122 := by
  intro c hc
  obtain ⟨k, hk, hb⟩ := mem_bt hc
  rcases h with ⟨h1, h2⟩ | ⟨h1, h2⟩
  · obtain rfl : k = 0 := by omega
    unfold zc at h2
    have := of_decide_eq_true h2
    omega
  · obtain ⟨a1, a2, a3, a4⟩ := zs_iff.1 h2
    have b2 := t2_iff.1 a2
    have b4 := t2_iff.1 a4
    simp only [Nat.zero_add, Nat.reduceAdd] at b2 b4 a3
    have : k = 0 ∨ k = 1 ∨ k = 2 ∨ k = 3 ∨ k = 4 ∨ k = 5 := by omega
    rcases this with rfl | rfl | rfl | rfl | rfl | rfl <;> omega
theorem toUpper_is {Z : List UInt8} {s T : ByteArray} (w : World) (hZ : Z ≠ [] → zt Z) (hs : s = txt Z) (hT : T = txt (Z.map up)) :
    Calls Tryz.prog 156 #[.string s] w fun e w' => e = .returned (.string T) ∧ Below w.heap.size w w' := by
  have e1 := data_txt hs
  have hb : ∀ c ∈ Z, c.toNat ≤ 58 ∨ c.toNat = 90 ∨ c.toNat = 122 := fun c hc => zt_bytes (hZ (List.ne_nil_of_mem hc)) c hc
  have hl : Z.length ≤ 6 := by
    by_cases z : Z = []
    · rw [z]; simp
    · rcases hZ z with ⟨h, _⟩ | ⟨h, _⟩ <;> omega
  refine (Tryz.strings_ToUpper_ascii s w (by rw [hs, txt_size]; omega) (fun j b h => ?_)).mono ?_
  · rw [e1] at h
    have := hb b (List.mem_of_getElem? h)
    omega
  · rintro e w' ⟨rfl, hbw⟩
    refine ⟨?_, hbw⟩
    rw [e1, hT]
    have e2 : Lib.toUpperA Z = Z.map up := by
      unfold Lib.toUpperA
      refine List.map_congr_left fun c hc => ?_
      have := up_low c.toNat c.toNat_lt (hb c hc)
      rwa [UInt8.ofNat_toNat] at this
    rw [e2]; rfl
/-- The bytes so far are the call's own row; what stood ahead of it has not turned. -/
def NR (W wr : World) (t : List UInt8) (v : Value) : Prop := wr.ownsRow W.heap.size 5 1 v t.length (bytV t) ∧ Below W.heap.size W wr
theorem own_below {w w' : World} {base size n : Nat} {e : TypeId} {v : Value} {xs : List Value} (h : w.ownsRow base e size v n xs) (hb : Below w.heap.size w w') : w'.ownsRow base e size v n xs := by
  refine ⟨h.1, ?_⟩
  rcases h.2 with h0 | ⟨g, cap, cur, e, hbg, hg, r⟩
  · exact .inl h0
  · exact .inr ⟨g, cap, cur, e, hbg, by rw [hb.block _ (lt_of_block hg)]; exact hg, r⟩
theorem strCells_txt (l : List UInt8) : Lib.strCells (txt l) = bytV l := by simp [Lib.strCells, bytV, txt]
section
variable {W wr w' : World} {t u : List UInt8} {v v' : Value}
theorem NR.start : NR W W [] (.slice none 0 0) := ⟨World.ownsRow_nil W _ 5 1, Below.refl _ _⟩
theorem NR.call (h : NR W wr t v) (hb : Below wr.heap.size wr w') : NR W w' t v := ⟨own_below h.1 hb, below_tr h.2 hb⟩
theorem NR.block (h : NR W wr t v) : ∀ g, v.ownBlock = some g → W.heap.size ≤ g := fun g e => (h.1.lt g e).1
theorem NR.str {S : ByteArray} (h : NR W wr t v) (hS : S = txt u) (h1 : w'.ownsRow W.heap.size 5 1 v' (t.length + S.size) (bytV t ++ Lib.strCells S)) (h2 : wr.grownBy w' v.ownBlock) : NR W w' (t ++ u) v' := by
  subst hS
  refine ⟨?_, h.2.grown h2 h.2.size h.block⟩
  rw [List.length_append, show bytV (t ++ u) = bytV t ++ bytV u by simp [bytV]]
  rw [txt_size, strCells_txt] at h1
  exact h1
theorem NR.app {o : Obj} (h : NR W wr t v) (h1 : w'.ownsRow W.heap.size 5 1 v' (t.length + u.length) (bytV t ++ bytV u)) (h2 : (wr.alloc o).grownBy w' v.ownBlock) : NR W w' (t ++ u) v' := by
  refine ⟨?_, (h.2.alloc h.2.size o).grown h2 (by have := h.2.size; simp; omega) h.block⟩
  rw [List.length_append, show bytV (t ++ u) = bytV t ++ bytV u by simp [bytV]]
  exact h1
theorem NR.conv (h : NR W wr t v) : ∃ A n c, v = .slice A n c ∧ (convert 48 9 (.slice A n c)).run Tryz.prog wr = .ok (.string (txt t)) wr := by
  obtain ⟨A, c, rfl, o1, o2, o3, o4, o5⟩ := own_form h.1
  exact ⟨A, _, c, rfl, conv_bytes _ c rfl o4⟩
end
theorem cells_one' {w : World} (c : UInt8) (x : Int) (hx : x = (c.toNat : Int)) : Byt (w.alloc (.cells #[.int .u8 x] 5)) (w.alloc (.cells #[.int .u8 x] 5)).heap.size (some ⟨w.heap.size, 0, none⟩) [c] := by
  subst hx
  refine fun _ => ⟨w.heap.size, 0, rfl, by simp, fun k hk => ?_⟩
  obtain rfl : k = 0 := by simpa using hk
  rw [World.cell?_alloc_at _ _ _ _ rfl]
  simp [bt]
/-- The parts in their block, told of a world behind. -/
theorem wo_cells {w wr : World} {a b c d : ByteArray} (h : Below (w.alloc (wo a b c d)).heap.size (w.alloc (wo a b c d)) wr) :
    (wr.cell? ⟨w.heap.size, 0, none⟩ = some (.string a) ∧ wr.cell? ⟨w.heap.size, 1, none⟩ = some (.string b) ∧ wr.cell? ⟨w.heap.size, 2, none⟩ = some (.string c) ∧ wr.cell? ⟨w.heap.size, 3, none⟩ = some (.string d)) ∧ Below w.heap.size w wr := by
  have P : PW w wr a b c d := PW.start.below h
  exact ⟨P.cells.1, P.1⟩
theorem kind_is {D T Z : List UInt8} {A B C E : ByteArray} {k : Int} (w : World) (hA : A = txt D) (hB : B = txt T) (hE : E = txt Z) (hk : k = (kd4 D T Z : Nat)) :
    Calls Tryz.prog 152 #[wv A B C E] w fun e w' => e = .returned (.int .u8 k) ∧ Below w.heap.size w w' := by
  have ea := txt_empty hA
  have eb := txt_empty hB
  have ee := txt_empty hE
  have HB : Hid (Below w.heap.size w (w.alloc (wo A B C E))) := Lib.hid ((Below.refl _ _).alloc (Nat.le_refl _) _)
  unfold kd4 at hk
  clear hA hB hE
  by_cases z : Z = []
  · rw [decide_eq_true z] at ee
    rw [if_neg (fun h => h z)] at hk
    clear z
    by_cases t : T = []
    · rw [decide_eq_true t] at eb
      rw [if_neg (fun h => h.2 t), if_neg (fun h => h t)] at hk
      clear t
      by_cases d : D = []
      · rw [decide_eq_true d] at ea
        rw [if_neg (fun h => h d)] at hk
        have K := Lib.hid hk
        clear d hk
        go_enter Tryz.func152, Tryz.ntmps152
        go_wp2_with fail
        go_ret
        exact ⟨ret_int K.out.symm, HB.out⟩
      · rw [decide_eq_false d] at ea
        rw [if_pos d] at hk
        have K := Lib.hid hk
        clear d hk
        go_enter Tryz.func152, Tryz.ntmps152
        go_wp2_with fail
        go_ret
        exact ⟨ret_int K.out.symm, HB.out⟩
    · rw [decide_eq_false t] at eb
      by_cases d : D = []
      · rw [decide_eq_true d] at ea
        rw [if_neg (fun h => h.1 d), if_pos t] at hk
        have K := Lib.hid hk
        clear d t hk
        go_enter Tryz.func152, Tryz.ntmps152
        go_wp2_with fail
        go_ret
        exact ⟨ret_int K.out.symm, HB.out⟩
      · rw [decide_eq_false d] at ea
        rw [if_pos ⟨d, t⟩] at hk
        have K := Lib.hid hk
        clear d t hk
        go_enter Tryz.func152, Tryz.ntmps152
        go_wp2_with fail
        go_ret
        exact ⟨ret_int K.out.symm, HB.out⟩
  · rw [decide_eq_false z] at ee
    rw [if_pos z] at hk
    have K := Lib.hid hk
    clear z hk ea eb
    go_enter Tryz.func152, Tryz.ntmps152
    go_wp2_with fail
    go_ret
    exact ⟨ret_int K.out.symm, HB.out⟩
end Da
end Go.Proofs.YtbeefjhcbphiaaaGreatDoor
/- Date-times as lists: what is read is its own normal form. -/
namespace Go.Proofs.YtbeefjhcbphiaaaGreatDoor
open Go.RowKit
namespace Da

theorem stp_fix {ds : List UInt8} (h1 : ds ≠ []) (h : ds.getLast? ≠ some 48) : stp (46 :: ds) = 46 :: ds := by
  have e : st0 (46 :: ds) = 46 :: ds := by
    unfold st0
    obtain ⟨x, r, hx⟩ := List.exists_cons_of_ne_nil (l := ds.reverse) (by simpa using h1)
    have hx48 : x ≠ 48 := by
      rintro rfl
      apply h
      have := congrArg List.reverse hx
      rw [List.reverse_reverse, List.reverse_cons] at this
      rw [this]; simp
    have hd : (ds.reverse).dropWhile (· == 48) = ds.reverse := by
      rw [hx, List.dropWhile_cons, if_neg (by simpa using hx48)]
    rw [List.reverse_cons, drop0_app, hd, if_neg (by simpa using h1)]
    simp
  rw [stp, e, if_neg (by intro g; injection g with _ g; exact h1 g)]
theorem stp_idem {F : List UInt8} (h : F = [] ∨ ft F) : stp (stp F) = stp F := by
  rcases h with rfl | h
  · rfl
  · rcases st0_ft h with h2 | ⟨ds, h1, h2, h3, h4⟩
    · have : stp F = [] := by rw [stp, if_pos h2]
      rw [this]; rfl
    · have : stp F = 46 :: ds := by rw [stp, h2, if_neg (by intro e; injection e with _ e; exact h1 e)]
      rw [this]; exact stp_fix h1 h4
theorem up_up (c : UInt8) : up (up c) = up c := by
  unfold up
  split
  · rfl
  · rfl
theorem map_up (Z : List UInt8) : (Z.map up).map up = Z.map up := by
  rw [List.map_map]; exact List.map_congr_left fun c _ => up_up c
theorem six_up {Z : List UInt8} (h : Z.length = 6) (h2 : zs Z 0 = true) : Z.map up = Z := by
  have hb : ∀ c ∈ Z, up c = c := fun c hc => by
    unfold up
    rw [if_neg]
    rintro rfl
    obtain ⟨k, hk, hb⟩ := mem_bt hc
    have hb : bt Z k = 122 := hb
    obtain ⟨a1, a2, a3, a4⟩ := zs_iff.1 h2
    have b2 := t2_iff.1 a2
    have b4 := t2_iff.1 a4
    simp only [Nat.zero_add, Nat.reduceAdd] at b2 b4 a3
    have : k = 0 ∨ k = 1 ∨ k = 2 ∨ k = 3 ∨ k = 4 ∨ k = 5 := by omega
    rcases this with rfl | rfl | rfl | rfl | rfl | rfl <;> omega
  rw [List.map_congr_left hb, List.map_id'']
  intro c; rfl
theorem zt_up {Z : List UInt8} (h : zt Z) : zt (Z.map up) := by
  rcases h with ⟨h1, h2⟩ | ⟨h1, h2⟩
  · match Z, h1, h2 with
    | [c], _, h2 =>
      refine .inl ⟨rfl, ?_⟩
      unfold zc at h2 ⊢
      have h3 := of_decide_eq_true h2
      rw [bt_c] at h3
      show decide (bt [up c] 0 = 90 ∨ bt [up c] 0 = 122) = true
      rw [bt_c]
      unfold up
      split
      · decide
      · exact decide_eq_true h3
  · rw [six_up h1 h2]; exact .inr ⟨h1, h2⟩
theorem mZ_up {Z : List UInt8} (h : zt Z) : mZ (Z.map up) = mZ Z := by
  rcases h with ⟨h1, h2⟩ | ⟨h1, h2⟩
  · rw [mZ, mZ, decide_eq_true (.inl (by rw [List.length_map]; omega)), decide_eq_true (.inl (by omega))]
  · rw [six_up h1 h2]
theorem sh_up {D T F Z : List UInt8} (h : Sh D T F Z) : Sh D T (stp F) (Z.map up) := by
  refine ⟨h.n, h.d, h.t, fun g => ?_, fun g => ?_⟩
  · by_cases f : F = []
    · rw [f] at g; exact absurd rfl g
    · refine ⟨(h.f f).1, ?_⟩
      exact (stp_ft (.inr (h.f f).2)).resolve_left g
  · have z : Z ≠ [] := fun e => by rw [e] at g; exact absurd rfl g
    exact ⟨(h.z z).1, (h.z z).2.1, zt_up (h.z z).2.2⟩
theorem fo {D T F Z : List UInt8} (h : Sh D T F Z) : F = [] ∨ ft F := by
  by_cases f : F = []
  · exact .inl f
  · exact .inr (h.f f).2
theorem ok_up {D T F Z : List UInt8} (h : Sh D T F Z) : ok D T (Z.map up) = ok D T Z := by
  unfold ok
  by_cases z : Z = []
  · rw [z]; rfl
  · rw [mZ_up (h.z z).2.2]
    simp
theorem nm_up {D T F Z : List UInt8} (h : Sh D T F Z) : nm D T (stp F) (Z.map up) = nm D T F Z := by
  rw [nm, nm, stp_idem (fo h), map_up]
theorem kd4_up (D T Z : List UInt8) : kd4 D T (Z.map up) = kd4 D T Z := by unfold kd4; simp
/-- A normal form is read as itself. -/
theorem rd_nm {D T F Z : List UInt8} (h : Sh D T F Z) (ho : ok D T Z = true) : rdD (nm D T F Z) = (nm D T F Z, 0) ∧ kd (nm D T F Z) = kd4 D T Z := by
  obtain ⟨a, b, _⟩ := rd_asm (sh_up h) (c := 84) (by decide)
  rw [ok_up h, if_pos ho, nm_up h] at a
  rw [kd4_up] at b
  exact ⟨a, b⟩
theorem rd_ok {l : List UInt8} (h : (rdD l).2 = 0) : Sh (pD l) (pT l) (pF l) (pZ l) ∧ ok (pD l) (pT l) (pZ l) = true ∧ (rdD l).1 = nm (pD l) (pT l) (pF l) (pZ l) ∧ en l = l.length := by
  unfold rdD at h ⊢
  by_cases g : en l = l.length ∧ kd l ≠ 0
  · rw [if_pos g] at h ⊢
    by_cases ho : ok (pD l) (pT l) (pZ l) = true
    · rw [if_pos ho]
      exact ⟨sh_of g.2, ho, rfl, g.1⟩
    · rw [if_neg ho] at h; cases h
  · rw [if_neg g] at h; cases h
theorem rd_rd {l : List UInt8} (h : (rdD l).2 = 0) : rdD (rdD l).1 = ((rdD l).1, 0) ∧ kd (rdD l).1 ≠ 0 := by
  obtain ⟨a, b, e, _⟩ := rd_ok h
  obtain ⟨r1, r2⟩ := rd_nm a b
  rw [e]
  exact ⟨r1, by rw [r2]; exact kd_sh a⟩
theorem rd_cases (l : List UInt8) : (rdD l).2 = 0 ∨ (rdD l).2 = 3 ∧ (rdD l).1 = [] ∨ (rdD l).2 = 9 ∧ (rdD l).1 = [] := by
  unfold rdD
  split
  · split
    · exact .inl rfl
    · exact .inr (.inr ⟨rfl, rfl⟩)
  · exact .inr (.inl ⟨rfl, rfl⟩)
theorem nm_len {D T F Z : List UInt8} (h : Sh D T F Z) : (nm D T F Z).length ≤ 25 + F.length := by
  rw [nm, asm]
  simp only [List.length_append, List.length_map]
  have d : D.length ≤ 10 := by
    by_cases g : D = []
    · rw [g]; simp
    · rw [(h.d g).1]; omega
  have t : T.length ≤ 8 := by
    by_cases g : T = []
    · rw [g]; simp
    · rw [(h.t g).1]; omega
  have z : Z.length ≤ 6 := by
    by_cases g : Z = []
    · rw [g]; simp
    · rcases (h.z g).2.2 with ⟨e, _⟩ | ⟨e, _⟩ <;> omega
  have m : (md D T 84).length ≤ 1 := by unfold md; split <;> simp
  have f : (stp F).length ≤ F.length := by
    unfold stp
    split
    · simp
    · exact st0_len F
  omega
theorem pF_le (l : List UInt8) : (pF l).length ≤ l.length := by
  rw [pF, List.length_take, List.length_drop]; omega
theorem rd_len (l : List UInt8) : (rdD l).1.length ≤ 25 + l.length := by
  rcases rd_cases l with h | ⟨_, h⟩ | ⟨_, h⟩
  · obtain ⟨a, b, e, _⟩ := rd_ok h
    rw [e]
    have := nm_len a
    have := pF_le l
    omega
  · rw [h]; simp
  · rw [h]; simp
end Da
end Go.Proofs.YtbeefjhcbphiaaaGreatDoor
