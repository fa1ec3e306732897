/- The document's: how deep a value is, where a key is. -/
import Derived.Test.YtnnlgodgaolkkaaGreatDoorHd
import Derived.BigQuiet
import Derived.Lib.Strings
import Derived.Deep.QuietTactic
import Derived.Deep.Quiet
import Derived.Laws.CopyOwn
import Derived.Laws.AppendOwn
import Derived.Laws.Strings
import Derived.OwnWalk
import Derived.StillTailTactics
import Derived.Laws.Rows
import Derived.Deep.RegionLaw
namespace Go.Proofs.YtnnlgodgaolkkaaGreatDoor
open Go.RowKit
namespace Va

set_option maxHeartbeats 4000000 in
set_option maxRecDepth 100000 in
theorem rdeep_any : ∀ (N : Nat) (x : V), wt x ≤ N → N ≤ 1000000000000 → ∀ (w : World) (v : Value), Vm w v x →
    Calls Tryz.prog 30 #[v] w fun e w' => e = .returned (.int .i64 (dp x : Nat)) ∧ Below w.heap.size w w'
  | 0, x, hx, _, _, _, _ => by have := wt_pos x; omega
  | N + 1, .mk k t l ks, hx, hN, w, v, hv => by
    obtain ⟨A, B, c, d, rfl, hk, hl, hc, hA, hd, hd2, hB, hK, hV⟩ := hv.inv
    have IH := Lib.hid (fun (i : Nat) (x : V) (hi : l[i]? = some x) (w : World) (v : Value) (h : Vm w v x) => rdeep_any N x (by have := wt_sub (k := k) (t := t) (ks := ks) hi; omega) (by omega) w v h)
    have HD : Hid (dpL l ≤ 1000000000000) := Lib.hid (by have := dpL_le l; have := hx; rw [wt] at this; omega)
    have HDP := Lib.hid (show dp (.mk k t l ks) = if k = 7 ∨ k = 8 then dpL l + 1 else 0 by rw [dp])
    have HV := Lib.hid hV
    obtain ⟨T, hT⟩ : ∃ T, T = txt t := ⟨_, rfl⟩
    obtain ⟨n, HN⟩ : ∃ n, Hid (n = l.length) := ⟨_, Lib.hid rfl⟩
    obtain ⟨m, HM⟩ : ∃ m, Hid (m = ks.length) := ⟨_, Lib.hid rfl⟩
    rw [← HN.out, ← HM.out, ← hT]
    rw [← HN.out] at hl
    rw [← HM.out] at hd
    have hn5 : n ≤ 1000000000000 := by rw [HN.out]; have := wtL_len l; rw [wt] at hx; omega
    clear hT hK hV hx hN hv
    by_cases hkk : k = 7 ∨ k = 8
    · have HR := Lib.hid (show dp (.mk k t l ks) = dpL l + 1 by rw [HDP.out, if_pos hkk])
      obtain ⟨W1, hW1⟩ : ∃ W, W = w.alloc (vO (.int .u8 k) (.string T) (.slice A n c) (.slice B m d)) := ⟨_, rfl⟩
      have HX := Lib.hid (show Bx W1 w.heap.size (.int .u8 k) (.string T) (.slice A n c) (.slice B m d) from by rw [hW1]; exact Bx.new ..)
      have HB1 := Lib.hid (show Below w.heap.size w W1 from by rw [hW1]; exact below_new ..)
      have HV1 := Lib.hid (HV.out.on HB1.out)
      go_enter Tryz.func30, Tryz.ntmps30
      go_upto_region 1 with fail
      rw [← hW1]
      obtain ⟨h, hh⟩ : ∃ h, h = w.heap.size := ⟨_, rfl⟩
      rw [← hh] at HX ⊢
      clear hW1 hh
      go_cut [12] from 5 to 12 (fun a wx => W1 = wx ∧ a = .bool false)
      case first =>
        have x0 := HX.out.c0
        rcases hkk with rfl | rfl
        · go_wp2_with fail
          go_meet
          exact ⟨by first | rfl | trivial, rfl⟩
        · go_wp2_with fail
          go_meet
          exact ⟨by first | rfl | trivial, rfl⟩
      case rest =>
        obtain ⟨rfl, rfl⟩ := hcut
        have x2 := HX.out.c2
        go_wp2_with fail
        clear x2
        go_loopw [3, 4] (fun a b wx => Hid (Below W1.heap.size W1 wx) ∧ ∃ q i : Nat, i ≤ n ∧ q ≤ 1000000000000 ∧ a = .int .i64 q ∧ b = .int .i64 i ∧ Hid (max q (dpL (l.drop i)) = dpL l)) (fun _ b _ => n - (intOf b).toNat)
        case atStart => exact ⟨Lib.hid (Below.refl _ _), 0, 0, Nat.zero_le _, by omega, rfl, rfl, Lib.hid (by rw [List.drop_zero]; omega)⟩
        case round =>
          obtain ⟨HBR, q, i, hi, hq, rfl, rfl, HQ⟩ := hrel
          have X := HX.out.on HBR.out
          have x2 := X.c2
          clear X
          by_cases hlt : i < n
          · obtain ⟨y, hy⟩ := get_lt (l := l) (i := i) (by rw [← HN.out]; exact hlt)
            obtain ⟨g, o, rfl, hg, hf⟩ := HV1.out (by rw [← HN.out]; omega)
            obtain ⟨v0, v1, v2, v3, d0, d1, d2, d3, hvm⟩ := hf i y hy
            have c0 := cell_old HBR.out hg d0
            have c1 := cell_old HBR.out hg d1
            have c2 := cell_old HBR.out hg d2
            have c3 := cell_old HBR.out hg d3
            have CI := Lib.hid (IH.out i y hy wr _ (hvm.on HBR.out))
            obtain ⟨r, hr⟩ : ∃ r, r = dp y := ⟨_, rfl⟩
            rw [← hr] at CI
            have e1 := dpL_drop hy
            obtain ⟨z, hz⟩ : ∃ z : Nat, max (q : Int) (r : Int) = (z : Nat) := ⟨max q r, by omega⟩
            have HE := Lib.hid (show max z (dpL (l.drop (i + 1))) = dpL l ∧ z ≤ 1000000000000 from by have hq1 := HQ.out; have := HD.out; rw [e1, ← hr] at hq1; omega)
            clear e1 d0 d1 d2 d3 hvm hf hr
            go_wp2_with fail
            refine CI.out.mono ?_
            rintro e w2 ⟨rfl, hb2⟩
            have HB2 := Lib.hid (below_tr HBR.out hb2)
            clear hb2 c0 c1 c2 c3
            go_wp2_with fail
            go_roundw
            case rel => exact ⟨HB2, z, i + 1, by omega, HE.out.2, by first | rfl | go_num, by go_num, Lib.hid HE.out.1⟩
            case measure => simp [intOf]; omega
          · have HE := Lib.hid (show q = dpL l from by have e := HQ.out; rw [dpL_end (by rw [← HN.out]; omega)] at e; omega)
            have HBF := Lib.hid (below_tr HB1.out HBR.out)
            go_wp2_with fail
            go_ret
            exact ⟨ret_int (by rw [HR.out, ← HE.out]; omega), HBF.out⟩
    · have HR := Lib.hid (show dp (.mk k t l ks) = 0 by rw [HDP.out, if_neg hkk])
      have e7 : ((k : Int) != 7) = true := bne_iff_ne.2 (by omega)
      have e8 : ((k : Int) != 8) = true := bne_iff_ne.2 (by omega)
      clear hkk
      go_enter Tryz.func30, Tryz.ntmps30
      go_wp2_with fail
      go_ret
      exact ⟨ret_int (by rw [HR.out]; rfl), below_new ..⟩
end Va
end Go.Proofs.YtnnlgodgaolkkaaGreatDoor
/- The document's: where a key is; what a value's own parts must be. -/
namespace Go.Proofs.YtnnlgodgaolkkaaGreatDoor
open Go.RowKit
namespace Va

theorem txt_inj {a b : Bs} (h : txt a = txt b) : a = b := by
  have := congrArg (fun s : ByteArray => s.data.toList) h
  simpa [txt] using this
theorem tl_eq {a b : Bs} {s t : ByteArray} (hs : s = txt a) (ht : t = txt b) : s.toList = t.toList ↔ a = b := by
  subst hs ht
  rw [Lib.toList_data, Lib.toList_data]
  simp [txt]
set_option maxHeartbeats 4000000 in
set_option maxRecDepth 100000 in
theorem find_any {x : V} {key : Bs} {s : ByteArray} {z : Int} (w : World) (v : Value) (hv : Vm w v x) (hx : wt x ≤ 1000000000000) (hs : s = txt key) (hz : z = fnI (fnd x.keys key)) :
    Calls Tryz.prog 45 #[v, .string s] w fun e w' => e = .returned (.int .i64 z) ∧ Below w.heap.size w w' := by
  obtain ⟨k, t, l, ks⟩ := x
  obtain ⟨A, B, c, d, rfl, hk, hl, hc, hA, hd, hd2, hB, hK, hV⟩ := hv.inv
  obtain ⟨T, hT⟩ : ∃ T, T = txt t := ⟨_, rfl⟩
  obtain ⟨n, HN⟩ : ∃ n, Hid (n = l.length) := ⟨_, Lib.hid rfl⟩
  obtain ⟨m, HM⟩ : ∃ m, Hid (m = ks.length) := ⟨_, Lib.hid rfl⟩
  rw [← HN.out, ← HM.out, ← hT]
  rw [← HN.out] at hl
  rw [← HM.out] at hd
  have hm5 : m ≤ 1000000000000 := by rw [HM.out]; rw [wt] at hx; omega
  have HS := Lib.hid hs
  have HZ := Lib.hid (show z = fnI (fnd ks key) from hz)
  have HK := Lib.hid (hK.on (below_new w (vO (.int .u8 k) (.string T) (.slice A n c) (.slice B m d))))
  clear hT hK hV hx hv hs hz
  go_enter Tryz.func45, Tryz.ntmps45
  go_upto_region 1 with fail
  obtain ⟨W1, hW1⟩ : ∃ W, W = w.alloc (vO (.int .u8 k) (.string T) (.slice A n c) (.slice B m d)) := ⟨_, rfl⟩
  have HX := Lib.hid (show Bx W1 w.heap.size (.int .u8 k) (.string T) (.slice A n c) (.slice B m d) from by rw [hW1]; exact Bx.new ..)
  have HB1 := Lib.hid (show Below w.heap.size w W1 from by rw [hW1]; exact below_new ..)
  rw [← hW1] at HK ⊢
  obtain ⟨h, hh⟩ : ∃ h, h = w.heap.size := ⟨_, rfl⟩
  rw [← hh] at HX ⊢
  clear hW1 hh
  have x3 := HX.out.c3
  go_wp2_with fail
  go_loopw [5] (fun a wx => W1 = wx ∧ ∃ i : Nat, i ≤ m ∧ a = .int .i64 i ∧ Hid (∀ j, j < i → ks[j]? ≠ some key)) (fun a _ => m - (intOf a).toNat)
  case atStart => exact ⟨rfl, 0, Nat.zero_le _, rfl, Lib.hid (fun j hj => absurd hj (by omega))⟩
  case round =>
    obtain ⟨rfl, i, hi, rfl, HQ⟩ := hrel
    by_cases hlt : i < m
    · obtain ⟨y, hy⟩ := get_lt (l := ks) (i := i) (by rw [← HM.out]; exact hlt)
      obtain ⟨g, o, rfl, hg, hf⟩ := HK.out (by rw [← HM.out]; omega)
      have c5 := hf i y hy
      obtain ⟨S, hS⟩ : ∃ S, S = txt y := ⟨_, rfl⟩
      rw [← hS] at c5
      have he := tl_eq hS HS.out
      by_cases hyk : y = key
      · have e1 : S.toList = s.toList := he.2 hyk
        have HE := Lib.hid (show z = (i : Nat) by rw [HZ.out, fnd_at (by rw [hy, hyk]) HQ.out]; rfl)
        clear he hyk hS hf hy
        go_wp2_with fail
        go_ret
        exact ⟨ret_int HE.out.symm, HB1.out⟩
      · have e1 : (S.toList == s.toList) = false := beq_eq_false_iff_ne.2 fun e => hyk (he.1 e)
        have HE := Lib.hid (show ∀ j, j < i + 1 → ks[j]? ≠ some key from fun j hj => by
          rcases Nat.lt_or_ge j i with h1 | h1
          · exact HQ.out j h1
          · obtain rfl : j = i := by omega
            rw [hy]; intro e; exact hyk (Option.some.inj e))
        clear he hyk hS hf hy
        go_wp2_with fail
        go_roundw
        case rel => exact ⟨by first | rfl | trivial, i + 1, by omega, by go_num, HE⟩
        case measure => simp [intOf]; omega
    · have HE := Lib.hid (show z = -1 by rw [HZ.out, fnd_none (fun j hj => HQ.out j (by rw [← HM.out] at hj; omega))]; rfl)
      go_wp2_with fail
      go_ret
      exact ⟨ret_int HE.out.symm, HB1.out⟩
end Va
end Go.Proofs.YtnnlgodgaolkkaaGreatDoor
/- Regions that draw, and whose callees make memory alone. -/
namespace Go.Proofs.YtnnlgodgaolkkaaGreatDoor
open Go.RowKit
namespace Va

section
variable {P : Program} {ops : Array Oper} {C : World → Prop}
/-- A region that draws its order: one walk, in the order of the text, over worlds of a class of one's own. -/
theorem reg_lit {id : Nat} {Q : Exit → Act → World → Prop} {a : Act} {w : World} {l : List Oper} (hm : P.follows .mixedOrders = true) (hB : Region.lexB .any l.toArray = true) (hC : C w.drew)
    (h : wpQuiet P l.toArray C (fun a' => ∀ w', C w' → Q .normal a' w') l a) : (Code.region id l.toArray true).wp P Q a w := wp_region_quiet hm hB hC (by simpa using h)
end
/-- The worlds in which nothing that was there has turned. -/
structure Kept (w : World) where
  wx : World
  held : Below w.heap.size w wx
instance (w : World) : Nonempty (Kept w) := ⟨⟨w, Below.refl _ _⟩⟩
theorem Kept.out {w : World} {v : Value} {s : Kept w} {w' : World} (h : Below s.wx.heap.size s.wx w') : Ending.returned v = Ending.returned v ∧ ∃ t : Kept w, w' = t.wx := ⟨rfl, ⟨w', below_tr s.held h⟩, rfl⟩
theorem Kept.cell {w : World} (s : Kept w) {p : Addr} {v : Value} (h : w.cell? p = some v) : s.wx.cell? p = some v := (s.held.cell (World.block_lt_of_cell? w p h)).trans h
theorem sm_no {k k' : Nat} {t t' : Bs} {l l' : List V} {ks ks' : List Bs} (hm : may (.mk k t l ks) = true) (hm' : may (.mk k' t' l' ks') = true) (h : ¬ (k = k' ∧ t = t' ∧ l.length = l'.length)) : sm (.mk k t l ks) (.mk k' t' l' ks') = false := by
  cases hs : sm (.mk k t l ks) (.mk k' t' l' ks') with
  | false => rfl
  | true => exact absurd (sm_head hm hm' hs) h
theorem size_cap {_w : World} {l : List V} (h : wtL l ≤ 1000000000000) : l.length ≤ 1000000000000 := by have := wtL_len l; omega
end Va
end Go.Proofs.YtnnlgodgaolkkaaGreatDoor
/- The document's: the places of a map's entries, in the order of their keys. -/
namespace Go.Proofs.YtnnlgodgaolkkaaGreatDoor
open Go.RowKit
namespace Va

/-- Numbers in a row of one's own. -/
def IV (l : List Nat) : List Value := l.map fun j => .int .i64 (j : Nat)
theorem IV_len (l : List Nat) : (IV l).length = l.length := List.length_map _
theorem IV_get (l : List Nat) (p : Nat) : (IV l)[p]? = (l[p]?).map fun j => .int .i64 (j : Nat) := List.getElem?_map
def OI (wr : World) (base : Nat) (v : Value) (l : List Nat) : Prop := wr.ownsRow base 3 1 v l.length (IV l)
theorem OI.row {wr : World} {base : Nat} {v : Value} {l : List Nat} (h : OI wr base v l) (h0 : 0 < l.length) :
    ∃ g c cur, v = .slice (some ⟨g, 0, none⟩) l.length c ∧ base ≤ g ∧ g < wr.heap.size ∧ wr.heap[g]? = some (.cells cur 3 (0, 0)) ∧ l.length ≤ c ∧ c ≤ maxLen ∧ cur.size = c ∧ cur.toList.take l.length = IV l ∧ ∀ p j, l[p]? = some j → wr.cell? ⟨g, p, none⟩ = some (.int .i64 (j : Nat)) := by
  rcases h.2 with ⟨_, e⟩ | ⟨g, c, cur, rfl, hb, hg, h1, h2, h3, h4⟩
  · omega
  · rw [Nat.mul_one] at h3 h4
    refine ⟨g, c, cur, rfl, hb, (Array.getElem?_eq_some_iff.1 hg).1, hg, h1, h2, h3, h4, fun p j hp => ?_⟩
    have hpl := (List.getElem?_eq_some_iff.1 hp).1
    have e : (IV l)[p]? = some (.int .i64 (j : Nat)) := by rw [IV_get, hp]; rfl
    rw [← h4, List.getElem?_take, if_pos hpl] at e
    simp only [World.cell?, hg]
    rw [← Array.getElem?_toList]; exact e
theorem ins_at {ks : List Bs} {i : Nat} : ∀ {l : List Nat} {k : Nat}, (∀ p j : Nat, p < k → l[p]? = some j → bl (ks.getD j []) (ks.getD i []) = true) → k ≤ l.length → (∀ j : Nat, l[k]? = some j → bl (ks.getD j []) (ks.getD i []) = false) → ins ks i l = l.take k ++ i :: l.drop k
  | [], k, _, hk, _ => by
    obtain rfl : k = 0 := by simpa using hk
    rfl
  | j :: r, 0, _, _, h => by rw [ins, if_neg (by rw [h j rfl]; decide)]; rfl
  | j :: r, k + 1, h1, hk, h2 => by
    rw [ins, if_pos (h1 0 j (by omega) rfl), ins_at (l := r) (k := k) (fun p q hp hq => h1 (p + 1) q (by omega) (by simpa using hq)) (by simpa using hk) (fun q hq => h2 q (by simpa using hq))]
    rfl
theorem put_at {L X : List Value} {z y : Value} {n k : Nat} (hX : X.length = n) (hk : k ≤ n) (hL : L.take (n + 1) = X ++ [z]) : ((splice L (k + 1) (X.drop k)).set k y).take (n + 1) = X.take k ++ y :: X.drop k := by
  have hl : n + 1 ≤ L.length := by
    have := congrArg List.length hL
    rw [List.length_take, List.length_append, hX] at this
    simp at this; omega
  have e1 : L.take k = X.take k := by
    have := congrArg (List.take k) hL
    rw [List.take_take, Nat.min_eq_left (by omega), List.take_append_of_le_length (by omega)] at this
    exact this
  have e2 : L.take (k + 1) = X.take k ++ [L[k]'(by omega)] := by rw [List.take_add_one, e1, List.getElem?_eq_getElem (by omega)]; rfl
  have hxk : (X.take k).length = k := by rw [List.length_take]; omega
  have hxd : (X.drop k).length = n - k := by rw [List.length_drop, hX]
  unfold splice
  rw [e2, List.append_assoc, List.set_append_right _ _ (by omega), hxk, Nat.sub_self]
  show ((X.take k) ++ (y :: (X.drop k ++ L.drop (k + 1 + (X.drop k).length)))).take (n + 1) = _
  rw [show X.take k ++ (y :: (X.drop k ++ L.drop (k + 1 + (X.drop k).length))) = (X.take k ++ y :: X.drop k) ++ L.drop (k + 1 + (X.drop k).length) by simp]
  rw [List.take_append_of_le_length (by simp [hxk, hxd]; omega), List.take_of_length_le (by simp [hxk, hxd]; omega)]
theorem OI.on {w w' : World} {base : Nat} {v : Value} {l : List Nat} (h : OI w base v l) (hb : Below w.heap.size w w') : OI w' base v l := by
  refine ⟨h.1, ?_⟩
  rcases h.2 with e | ⟨g, c, cur, e, h1, hg, h2⟩
  · exact .inl e
  · exact .inr ⟨g, c, cur, e, h1, by rw [hb.block g (Array.getElem?_eq_some_iff.1 hg).1]; exact hg, h2⟩
theorem OI.low {w : World} {base base' : Nat} {v : Value} {l : List Nat} (h : OI w base v l) (hb : base' ≤ base) : OI w base' v l := by
  refine ⟨h.1, ?_⟩
  rcases h.2 with e | ⟨g, c, cur, e, h1, hg, h2⟩
  · exact .inl e
  · exact .inr ⟨g, c, cur, e, by omega, hg, h2⟩
theorem OI.nil (w : World) (base : Nat) : OI w base (.slice none 0 0) [] := World.ownsRow_nil _ _ _ 1
theorem OI.len {w : World} {base : Nat} {v : Value} {l : List Nat} (h : OI w base v l) : ∃ A c, v = .slice A l.length c ∧ l.length ≤ c := by
  rcases h.2 with ⟨e, h0⟩ | ⟨g, c, cur, e, _, _, h1, _⟩
  · exact ⟨none, 0, by rw [e, h0], by omega⟩
  · exact ⟨_, c, e, h1⟩
theorem cell_new1 (w : World) (t : TypeId) (u : Value) : ∀ j x, [u][j]? = some x → (w.alloc (.cells #[u] t)).cell? ((⟨w.heap.size, 0, none⟩ : Addr).add j) = some x := fun j x h => by
  rw [addAt, World.cell?_alloc_at _ _ _ _ rfl]
  cases j with
  | zero => simpa using h
  | succ j => simp at h
theorem bl_txt {a b : Bs} {S U : ByteArray} (hS : S = txt a) (hU : U = txt b) : Op.bytesLess S.toList U.toList = bl a b := by
  subst hS hU
  rw [Lib.toList_data, Lib.toList_data]
  simp [txt]
set_option maxHeartbeats 8000000 in
set_option maxRecDepth 100000 in
theorem rord_any {x : V} {v : Value} (w : World) (hx : wt x ≤ 1000000000000) (hv : Vm w v x) :
    Calls Tryz.prog 58 #[v] w fun e w' => (∃ u, e = .returned u ∧ OI w' w.heap.size u (ord x.keys x.keys.length)) ∧ Below w.heap.size w w' := by
  obtain ⟨k, t, l, ks⟩ := x
  obtain ⟨A, B, c, d, rfl, hk, hl, hc, hA, hd, hd2, hB, hK, hV⟩ := hv.inv
  obtain ⟨T, hT⟩ : ∃ T, T = txt t := ⟨_, rfl⟩
  obtain ⟨n, hn⟩ : ∃ n, n = l.length := ⟨_, rfl⟩
  obtain ⟨m, HM⟩ : ∃ n, Hid (n = ks.length) := ⟨_, Lib.hid rfl⟩
  rw [← hT, ← hn, ← HM.out]
  show Calls Tryz.prog 58 _ w fun e w' => (∃ u, e = .returned u ∧ OI w' w.heap.size u (ord ks ks.length)) ∧ Below w.heap.size w w'
  rw [← HM.out]
  have hm5 : m ≤ 1000000000000 := by rw [HM.out]; rw [wt] at hx; omega
  obtain ⟨W1, hW1⟩ : ∃ W, W = w.alloc (vO (.int .u8 k) (.string T) (.slice A n c) (.slice B m d)) := ⟨_, rfl⟩
  have HX := Lib.hid (show Bx W1 w.heap.size (.int .u8 k) (.string T) (.slice A n c) (.slice B m d) from by rw [hW1]; exact Bx.new ..)
  have HB1 := Lib.hid (show Below w.heap.size w W1 from by rw [hW1]; exact below_new ..)
  have HK := Lib.hid (hK.on HB1.out)
  have HS1 := Lib.hid (show w.heap.size + 1 = W1.heap.size from by rw [hW1]; show _ = (w.heap.push _).size; rw [Array.size_push])
  have HW1 := Lib.hid hW1
  clear hT hK hV hv hn hW1 hl hd hx
  go_enter Tryz.func58, Tryz.ntmps58
  go_upto_region 1 with fail
  rw [← HW1.out]
  obtain ⟨h, hh⟩ : ∃ h, h = w.heap.size := ⟨_, rfl⟩
  rw [← hh] at HX ⊢
  have HH := Lib.hid hh
  clear HW1 hh
  go_wp2_with fail
  go_loopw [3, 4, 5] (fun a b _ wx => ∃ i : Nat, i ≤ m ∧ b = .int .i64 i ∧ Hid (OI wx W1.heap.size a (ord ks i)) ∧ Hid (Below W1.heap.size W1 wx)) (fun _ b _ _ => m - (intOf b).toNat)
  case atStart => exact ⟨0, Nat.zero_le _, rfl, Lib.hid (OI.nil _ _), Lib.hid (Below.refl _ _)⟩
  case round =>
    obtain ⟨i, hi, rfl, HO, HBR⟩ := hrel
    have x3 := (HX.out.on HBR.out).c3
    by_cases hlt : i < m
    · obtain ⟨y, hy⟩ := get_lt (l := ks) (i := i) (by rw [← HM.out]; exact hlt)
      obtain ⟨gk, ok, rfl, hgk, hfk⟩ := HK.out (by rw [← HM.out]; omega)
      have HKF := Lib.hid (fun (V : World) (hb : Below W1.heap.size W1 V) p t (hp : ks[p]? = some t) => cell_old hb hgk (hfk p t hp))
      have HY := Lib.hid hy
      obtain ⟨A3, c3, rfl, hc3⟩ := HO.out.len
      rw [ord_len] at HO hc3 ⊢
      obtain ⟨wo, hwo⟩ : ∃ wo, wo = wr := ⟨_, rfl⟩
      subst hwo
      obtain ⟨L, HL⟩ : ∃ L, Hid (L = ord ks i) := ⟨_, Lib.hid rfl⟩
      have HLL := Lib.hid (show L.length = i by rw [HL.out, ord_len])
      rw [← HL.out] at HO
      obtain ⟨S, hS⟩ : ∃ S, S = txt y := ⟨_, rfl⟩
      have HS := Lib.hid hS
      have him : i ≤ 1000000000000 := by omega
      clear hfk hy hS
      go_upto_block 2 with fail
      clear x3
      go_cut [5] from 13 to 34 (fun a wx => ∃ q : Nat, q ≤ i ∧ a = .int .i64 q ∧ Hid (Below wo.heap.size wo wx) ∧ Hid ((∀ p j : Nat, p < q → L[p]? = some j → bl (ks.getD j []) (ks.getD i []) = true) ∧ ∀ j : Nat, L[q]? = some j → bl (ks.getD j []) (ks.getD i []) = false))
      case first =>
        go_wp2_with fail
        go_loopw [5] (fun a wx => ∃ q : Nat, q ≤ i ∧ a = .int .i64 q ∧ Hid (Below wo.heap.size wo wx) ∧ Hid (∀ p j : Nat, p < q → L[p]? = some j → bl (ks.getD j []) (ks.getD i []) = true)) (fun a _ => i - (intOf a).toNat)
        case atStart => exact ⟨0, Nat.zero_le _, rfl, Lib.hid (Below.refl _ _), Lib.hid (fun p _ hp => absurd hp (by omega))⟩
        case round =>
          obtain ⟨q, hq, rfl, HBI, HQ⟩ := hrel
          have HBW := Lib.hid (below_tr HBR.out HBI.out)
          by_cases hqi : q < i
          · obtain ⟨j, hj⟩ := get_lt (l := L) (i := q) (by rw [HLL.out]; exact hqi)
            have hjn : j < i := by rw [HL.out] at hj; exact ord_mem.1 (List.mem_of_getElem? hj)
            obtain ⟨z, hz⟩ := get_lt (l := ks) (i := j) (by rw [← HM.out]; omega)
            obtain ⟨g, cc, cur, e3, hg1, hg2, _, hg4, hg5, _, _, hg3⟩ := (HO.out.on HBI.out).row (by rw [HLL.out]; omega)
            rw [HLL.out] at e3 hg4
            obtain ⟨rfl, rfl⟩ : A3 = some ⟨g, 0, none⟩ ∧ c3 = cc := by injection e3 with e1 _ e2; exact ⟨e1, e2⟩
            have r1 := hg3 q j hj
            have c5 := HKF.out wr HBW.out i y HY.out
            have c6 := HKF.out wr HBW.out j z hz
            have x3 := (HX.out.on HBW.out).c3
            obtain ⟨U, hU⟩ : ∃ U, U = txt z := ⟨_, rfl⟩
            rw [← hU] at c6
            rw [← HS.out] at c5
            have eb := bl_txt hU HS.out
            have hjm : j < m := by omega
            have K0 := fun s : Kept wr => s.cell r1
            have K1 := fun s : Kept wr => s.cell c5
            have K2 := fun s : Kept wr => s.cell c6
            have K3 := fun s : Kept wr => s.cell x3
            have gj : ks.getD j [] = z := by rw [List.getD_eq_getElem?_getD, hz]; rfl
            have gi : ks.getD i [] = y := by rw [List.getD_eq_getElem?_getD, HY.out]; rfl
            cases hb : bl z y with
            | true =>
              rw [hb] at eb
              have HE := Lib.hid (show ∀ p j : Nat, p < q + 1 → L[p]? = some j → bl (ks.getD j []) (ks.getD i []) = true from fun p j' hp hj' => by
                rcases Nat.lt_or_ge p q with h1 | h1
                · exact HQ.out p j' h1 hj'
                · obtain rfl : p = q := by omega
                  obtain rfl := Option.some.inj (hj'.symm.trans hj)
                  rw [gj, gi, hb])
              clear hb gj gi hU hz hj hg3 e3 r1 c5 c6 x3 hg1 hg2
              go_upto_region 6 with fail
              refine reg_lit (C := fun wx => ∃ s : Kept wr, wx = s.wx) (by kernel_rfl) (by kernel_rfl) ⟨⟨_, (Below.refl _ _).drew⟩, rfl⟩ ?_
              iterate 20 (go_big_quiet_step (fail))
              refine wpQuiet_nil ?_
              rintro wc ⟨⟨wx, ox0⟩, e⟩
              have HC := Lib.hid (show Below wo.heap.size wo wc from by rw [e]; exact below_tr HBI.out ox0)
              clear e ox0 K0 K1 K2 K3
              go_wp2_with fail
              go_roundw
              case rel => exact ⟨q + 1, by omega, by go_num, HC, HE⟩
              case measure => simp [intOf]; omega
            | false =>
              rw [hb] at eb
              have HE := Lib.hid (show (∀ p j : Nat, p < q → L[p]? = some j → bl (ks.getD j []) (ks.getD i []) = true) ∧ ∀ j : Nat, L[q]? = some j → bl (ks.getD j []) (ks.getD i []) = false from ⟨HQ.out, fun j' hj' => by
                obtain rfl := Option.some.inj (hj'.symm.trans hj)
                rw [gj, gi, hb]⟩)
              clear hb gj gi hU hz hj hg3 e3 r1 c5 c6 x3 hg1 hg2
              go_upto_region 6 with fail
              refine reg_lit (C := fun wx => ∃ s : Kept wr, wx = s.wx) (by kernel_rfl) (by kernel_rfl) ⟨⟨_, (Below.refl _ _).drew⟩, rfl⟩ ?_
              iterate 20 (go_big_quiet_step (fail))
              refine wpQuiet_nil ?_
              rintro wc ⟨⟨wx, ox0⟩, e⟩
              have HC := Lib.hid (show Below wo.heap.size wo wc from by rw [e]; exact below_tr HBI.out ox0)
              clear e ox0 K0 K1 K2 K3
              go_wp2_with fail
              go_meet
              exact ⟨q, hq, rfl, HC, HE⟩
          · obtain rfl : q = i := by omega
            have HE := Lib.hid (show (∀ p j : Nat, p < q → L[p]? = some j → bl (ks.getD j []) (ks.getD q []) = true) ∧ ∀ j : Nat, L[q]? = some j → bl (ks.getD j []) (ks.getD q []) = false from ⟨HQ.out, fun j' hj' => by
              have := (List.getElem?_eq_some_iff.1 hj').1
              rw [HLL.out] at this; omega⟩)
            have hdec : decide ((q : Int) < q) = false := decide_eq_false (by omega)
            go_upto_region 6 with fail
            refine reg_lit (C := fun wx => ∃ s : Kept wr, wx = s.wx) (by kernel_rfl) (by kernel_rfl) ⟨⟨_, (Below.refl _ _).drew⟩, rfl⟩ ?_
            iterate 20 (go_big_quiet_step (fail))
            refine wpQuiet_nil ?_
            rintro wc ⟨⟨wx, ox0⟩, e⟩
            have HC := Lib.hid (show Below wo.heap.size wo wc from by rw [e]; exact below_tr HBI.out ox0)
            clear e ox0
            go_wp2_with fail
            go_meet
            exact ⟨q, Nat.le_refl _, rfl, HC, HE⟩
      case rest =>
        obtain ⟨q, hq, rfl, HBQ, HQ⟩ := hcut
        have HOQ := Lib.hid (HO.out.on HBQ.out)
        have HBW := Lib.hid (below_tr HBR.out HBQ.out)
        clear HO
        obtain ⟨i0, hi0, hz0, hz1, hz2⟩ := info_parts (show (Tryz.prog.info? 3).map (fun i => (i.zero, i.size, i.bytes)) = some (some (.int .i64 0), 1, 8) by kernel_rfl)
        have HINS := Lib.hid (show ord ks (i + 1) = L.take q ++ i :: L.drop q from by rw [ord, ← HL.out]; exact ins_at HQ.out.1 (by rw [HLL.out]; exact hq) HQ.out.2)
        have hown : World.ownsRow wc W1.heap.size 3 1 (.slice A3 i c3) i (IV L) := by have := HOQ.out; unfold OI at this; rw [HLL.out] at this; exact this
        have HOW := Lib.hid hown
        have hwc : W1.heap.size ≤ wc.heap.size := HBW.out.size
        clear hown hwc
        go_upto_region 9 with (at_builtin; (refine wpList_append_own _ rfl (.tmp 35) (.tmp 36) 61 rfl W1.heap.size 3 i0 (.int .i64 0) 1 8 Tryz.underlying61 hi0 hz0 hz1 hz2 rfl (by decide) _ i (IV L) rfl (HOW.out.alloc _) ⟨wc.heap.size, 0, none⟩ 1 1 [.int .i64 0] rfl rfl (cell_new1 _ _ _) (fun u hu => by simp at hu; subst hu; rfl) (by unfold maxLen; omega) (by omega) (by have := HBW.out.size; simp; omega) ?_); intro v2 w2 hown2 hg2 _)
        have hb2 : Below W1.heap.size W1 w2 := (HBW.out.alloc HBW.out.size _).grown hg2 (by have := HBW.out.size; simp; omega) (fun k hk => (HOW.out.lt k hk).1)
        rcases hown2.2 with ⟨_, h0⟩ | ⟨g2, c2, cur2, rfl, hgb, hgh, hle, hcm, hs2, htk⟩
        · omega
        rw [Nat.mul_one] at hs2 htk
        obtain ⟨Z, hZ⟩ : ∃ Z, Z = cur2.toList := ⟨_, rfl⟩
        have HG := Lib.hid (show w2.heap[g2]? = some (.cells Z.toArray 3 (0, 0)) from by rw [hZ]; simpa using hgh)
        rw [← hZ] at htk
        have HZL := Lib.hid (show Z.length = c2 from by rw [hZ, Array.length_toList, hs2])
        obtain ⟨CS, HCS⟩ : ∃ CS, Hid (CS = (IV L).drop q) := ⟨_, Lib.hid rfl⟩
        have HCL := Lib.hid (show CS.length = i - q from by rw [HCS.out, List.length_drop, IV_len, HLL.out])
        have HTK := Lib.hid htk
        have HXL := Lib.hid (show (IV L).length = i from by rw [IV_len, HLL.out])
        have HCC := Lib.hid (show ∀ j v, CS[j]? = some v → w2.cell? ((⟨g2, q, none⟩ : Addr).add j) = some v from fun j v hj => by
          have hj2 := (List.getElem?_eq_some_iff.1 hj).1
          rw [HCL.out] at hj2
          rw [HCS.out, List.getElem?_drop] at hj
          have : (Z.take (i + 1))[q + j]? = some v := by rw [HTK.out, List.getElem?_append_left (by rw [HXL.out]; omega)]; exact hj
          rw [List.getElem?_take, if_pos (by omega)] at this
          rw [addAt]
          simp only [World.cell?, HG.out]
          rw [List.getElem?_toArray]; exact this)
        have HC1 := Lib.hid (show ∀ v ∈ CS, v.oneCell' = true from fun v hv => by
          rw [HCS.out] at hv
          obtain ⟨j, _, rfl⟩ := List.mem_map.1 (List.mem_of_mem_drop hv)
          rfl)
        have HB2' := Lib.hid hb2
        have HGB := Lib.hid (And.intro hgb hcm)
        have hqc : q < c2 := by omega
        clear hown2 hg2 hgh htk hb2 hZ hs2 hgb HOW
        have hw1 : IntKind.i64.wrap ((q : Int) + 1) = (q : Int) + 1 := IntWalk.i64_in _ (by omega)
        have hw2 : (0 : Int) ≤ (q : Int) + 1 := by omega
        have hw3 : (q : Int) + 1 ≤ (i : Int) + 1 := by omega
        have hw4 : (q : Int) ≤ (i : Int) + 1 := by omega
        have HGd := Lib.hid (show w2.drew.heap[g2]? = some (.cells Z.toArray 3 (0, 0)) from HG.out)
        have HCCd := Lib.hid (show ∀ j v, CS[j]? = some v → w2.drew.cell? ((⟨g2, q, none⟩ : Addr).add j) = some v from HCC.out)
        have HBd := Lib.hid (HB2'.out.drew)
        refine wp_region_still_tail 7 (by kernel_rfl) (by kernel_rfl) ?_
        change wpStill _ _ w2.drew (fun a' => wpList _ _ _ _ a' w2.drew) _ _
        generalize w2.drew = wz at HGd HCCd HBd ⊢
        clear HG HCC HB2'
        simp only [List.take_succ_cons, List.take_zero, List.drop_succ_cons, List.drop_zero]
        repeat still_step
        refine wpStill_nil ?_
        refine wpList_copy_splice rfl (.tmp 41) (.tmp 44) 61 61 rfl 3 Tryz.underlying61 (by kernel_rfl) _ _ _ _ _ _ rfl rfl g2 (q + 1) Z 3 HGd.out CS (by rw [HCL.out]; show i - q = min (i + 1 - q) (i - q); omega)
          (fun hp => ⟨by rw [HCL.out] at hp; rw [if_neg (by omega)], ⟨g2, q, none⟩, by rw [if_neg (by omega)], HCCd.out⟩) (by rw [HCL.out, HZL.out]; omega) HC1.out W1.heap.size W1 HBd.out HGB.out.1 ?_
        intro w4 hg4 hb4
        obtain ⟨Z4, hZ4⟩ : ∃ Z4, Z4 = splice Z (q + 1) CS := ⟨_, rfl⟩
        rw [← hZ4] at hg4
        have HL4 := Lib.hid (show Z4.length = c2 from by rw [hZ4, length_splice _ _ _ (by rw [HCL.out, HZL.out]; omega), HZL.out])
        have HP := Lib.hid (show (Z4.set q (.int .i64 (i : Nat))).take (i + 1) = IV (L.take q ++ i :: L.drop q) from by
          rw [hZ4, HCS.out, put_at HXL.out hq HTK.out]
          simp [IV])
        obtain ⟨z4, hz4⟩ := get_lt (l := Z4) (i := q) (by rw [HL4.out]; exact hqc)
        have s1 : w4.cell? ⟨g2, q, none⟩ = some z4 := by simp only [World.cell?, hg4.out]; rw [List.getElem?_toArray]; exact hz4
        have s2 : w4.frozen? ⟨g2, q, none⟩ = false := by simp [World.frozen?, hg4.out]
        have HW5 := Lib.hid (show OI (w4.setCell ⟨g2, q, none⟩ (.int .i64 (i : Nat))) W1.heap.size (.slice (some ⟨g2, 0, none⟩) (i + 1) c2) (ord ks (i + 1)) from by
          rw [HINS.out]
          have hlen : (L.take q ++ i :: L.drop q).length = i + 1 := by simp [HLL.out]; omega
          refine ⟨by rw [IV_len, Nat.mul_one], .inr ⟨g2, c2, _, by rw [hlen], HGB.out.1, Go.heap_setCell_same w4 g2 q _ _ _ hg4.out, by rw [hlen]; exact hle, HGB.out.2, by simp [HL4.out], ?_⟩⟩
          rw [Nat.mul_one, hlen, ← HP.out]
          simp)
        have HB5 := Lib.hid (show Below W1.heap.size W1 (w4.setCell ⟨g2, q, none⟩ (.int .i64 (i : Nat))) from hb4.setCell HGB.out.1 _)
        clear hb4 hZ4 hz4 HQ HOQ hg4
        go_wp2_with fail
        go_roundw
        case rel => exact ⟨i + 1, by omega, by go_num, HW5, HB5⟩
        case measure => simp [intOf]; omega
    · obtain rfl : i = m := by omega
      have HF := Lib.hid (below_tr HB1.out HBR.out)
      have HOF := Lib.hid (HO.out.low (base' := w.heap.size) (by have := HS1.out; omega))
      go_wp2_with fail
      go_ret
      exact ⟨⟨_, rfl, HOF.out⟩, HF.out⟩
end Va
end Go.Proofs.YtnnlgodgaolkkaaGreatDoor
/- The document's: are two values the same? -/
namespace Go.Proofs.YtnnlgodgaolkkaaGreatDoor
open Go.RowKit
namespace Va

set_option maxHeartbeats 16000000 in
set_option maxRecDepth 100000 in
theorem rsame_any : ∀ (N : Nat) (x y : V), wt x ≤ N → N ≤ 1000000000000 → wt y ≤ 1000000000000 → may x = true → may y = true → ∀ (w : World) (v u : Value), Vm w v x → Vm w u y →
    Calls Tryz.prog 33 #[v, u] w fun e w' => e = .returned (.bool (sm x y)) ∧ Below w.heap.size w w'
  | 0, x, _, hx, _, _, _, _, _, _, _, _, _ => by have := wt_pos x; omega
  | N + 1, .mk k t l ks, .mk k' t' l' ks', hx, hN, hy, hm, hm', w, v, u, hv, hu => by
    obtain ⟨A, B, c, d, rfl, hk, hl, hc, hA, hd, hd2, hB, hK, hV⟩ := hv.inv
    obtain ⟨A', B', c', d', rfl, hk', hl', hc', hA', hd', hd2', hB', hK', hV'⟩ := hu.inv
    have IH := Lib.hid (fun (i j : Nat) (x y : V) (hi : l[i]? = some x) (hj : l'[j]? = some y) (w : World) (v u : Value) (h : Vm w v x) (h' : Vm w u y) =>
      rsame_any N x y (by have := wt_sub (k := k) (t := t) (ks := ks) hi; omega) (by omega) (by have := wt_sub (k := k') (t := t') (ks := ks') hj; omega) (may_sub hm hi) (may_sub hm' hj) w v u h h')
    have FD := Lib.hid (fun (w : World) (hu : Vm w (.agg #[.int .u8 k', .string (txt t'), .slice A' l'.length c', .slice B' ks'.length d']) (.mk k' t' l' ks')) {s : ByteArray} {z : Int} (key : Bs) (hs : s = txt key) (hz : z = fnI (fnd ks' key)) => find_any (key := key) w _ hu hy hs hz)
    have HU := Lib.hid hu
    have PA := Lib.hid (may_parts hm)
    have PB := Lib.hid (may_parts hm')
    have HNO := Lib.hid (sm_no hm hm')
    have HM1 := Lib.hid (And.intro hm hm')
    have HV := Lib.hid hV
    have HV' := Lib.hid hV'
    have HK := Lib.hid hK
    obtain ⟨T, hT⟩ : ∃ T, T = txt t := ⟨_, rfl⟩
    obtain ⟨T', hT'⟩ : ∃ T, T = txt t' := ⟨_, rfl⟩
    obtain ⟨n, HN⟩ : ∃ n, Hid (n = l.length) := ⟨_, Lib.hid rfl⟩
    obtain ⟨n', HN'⟩ : ∃ n, Hid (n = l'.length) := ⟨_, Lib.hid rfl⟩
    obtain ⟨m, HM⟩ : ∃ m, Hid (m = ks.length) := ⟨_, Lib.hid rfl⟩
    obtain ⟨m', HM'⟩ : ∃ m, Hid (m = ks'.length) := ⟨_, Lib.hid rfl⟩
    obtain ⟨R, hR⟩ : ∃ R, R = sm (.mk k t l ks) (.mk k' t' l' ks') := ⟨_, rfl⟩
    rw [← HN.out, ← HM.out, ← HN'.out, ← HM'.out, ← hT, ← hT', ← hR]
    rw [← HN'.out, ← HM'.out, ← hT'] at FD HU
    rw [← HN.out] at hl
    rw [← HM.out] at hd
    rw [← HN'.out] at hl'
    rw [← HM'.out] at hd'
    have hn5 : n ≤ 1000000000000 := by rw [HN.out]; have := wtL_len l; rw [wt] at hx; omega
    have hn5' : n' ≤ 1000000000000 := by rw [HN'.out]; have := wtL_len l'; rw [wt] at hy; omega
    have hm5 : m ≤ 1000000000000 := by rw [HM.out]; rw [wt] at hx; omega
    have HTE := Lib.hid (tl_eq hT hT')
    have HR := Lib.hid hR
    have HNF := Lib.hid (fun h => hR.trans (HNO.out h))
    obtain ⟨W1, hW1⟩ : ∃ W, W = w.alloc (vO (.int .u8 k) (.string T) (.slice A n c) (.slice B m d)) := ⟨_, rfl⟩
    obtain ⟨W2, hW2⟩ : ∃ W, W = W1.alloc (vO (.int .u8 k') (.string T') (.slice A' n' c') (.slice B' m' d')) := ⟨_, rfl⟩
    have hb1 : Below w.heap.size w W1 := by rw [hW1]; exact below_new ..
    have hb2 : Below W1.heap.size W1 W2 := by rw [hW2]; exact below_new ..
    have HX := Lib.hid (show Bx W2 w.heap.size (.int .u8 k) (.string T) (.slice A n c) (.slice B m d) from (show Bx W1 w.heap.size (.int .u8 k) (.string T) (.slice A n c) (.slice B m d) from by rw [hW1]; exact Bx.new ..).on hb2)
    have HY := Lib.hid (show Bx W2 W1.heap.size (.int .u8 k') (.string T') (.slice A' n' c') (.slice B' m' d') from by rw [hW2]; exact Bx.new ..)
    have HB2 := Lib.hid (below_tr hb1 hb2)
    have HVW := Lib.hid (HV.out.on HB2.out)
    have HVW' := Lib.hid (HV'.out.on HB2.out)
    have HKW := Lib.hid (HK.out.on HB2.out)
    have HUW := Lib.hid (HU.out.on HB2.out)
    have hsz : w.heap.size + 1 = W1.heap.size := by rw [hW1]; show _ = (w.heap.push _).size; rw [Array.size_push]
    clear hT hT' hK hV hK' hV' hx hN hv hy hu hm hm' hR HV HV' HK HNO HU hb1 hb2
    have HW1 := Lib.hid hW1
    have HW2 := Lib.hid hW2
    have HSZ := Lib.hid hsz
    clear hW1 hW2 hsz
    go_enter Tryz.func33, Tryz.ntmps33
    go_upto_region 1 with fail
    rw [← HW1.out, ← HW2.out]
    obtain ⟨h2, hh2⟩ : ∃ h, h = w.heap.size + 1 := ⟨_, rfl⟩
    rw [← HSZ.out, ← hh2] at HY
    rw [← hh2]
    obtain ⟨h1, hh1⟩ : ∃ h, h = w.heap.size := ⟨_, rfl⟩
    rw [← hh1] at HX ⊢
    clear HW1 HW2 HSZ hh1 hh2
    obtain ⟨x0, x1, x2, x3⟩ : W2.cell? ⟨h1, 0, none⟩ = some (.int .u8 k) ∧ W2.cell? ⟨h1, 1, none⟩ = some (.string T) ∧ W2.cell? ⟨h1, 2, none⟩ = some (.slice A n c) ∧ W2.cell? ⟨h1, 3, none⟩ = some (.slice B m d) := ⟨HX.out.c0, HX.out.c1, HX.out.c2, HX.out.c3⟩
    obtain ⟨y0, y1, y2, y3⟩ : W2.cell? ⟨h2, 0, none⟩ = some (.int .u8 k') ∧ W2.cell? ⟨h2, 1, none⟩ = some (.string T') ∧ W2.cell? ⟨h2, 2, none⟩ = some (.slice A' n' c') ∧ W2.cell? ⟨h2, 3, none⟩ = some (.slice B' m' d') := ⟨HY.out.c0, HY.out.c1, HY.out.c2, HY.out.c3⟩
    by_cases ek : k = k'
    · subst ek
      by_cases et : t = t'
      · have e1 : T.toList = T'.toList := HTE.out.2 et
        by_cases en : n = n'
        · subst en
          have hlen : l.length = l'.length := by rw [← HN.out, ← HN'.out]
          subst et
          have HLEN := Lib.hid hlen
          clear hlen
          by_cases h8 : k = 8
          · subst h8
            have HL := Lib.hid (show R = true ↔ ∀ (i : Nat) (s : Bs) (x : V), ks[i]? = some s → l[i]? = some x → ∃ (j : Nat) (y : V), fnd ks' s = some j ∧ l'[j]? = some y ∧ sm x y = true from by
              rw [HR.out]; exact sm_map PA.out.2.2.2.1 PB.out.2.2.2.1 (PA.out.2.2.1 rfl) (PB.out.2.2.1 rfl) HLEN.out)
            have HMN := Lib.hid (show m = n by rw [HM.out, HN.out]; exact PA.out.2.2.1 rfl)
            have HMN' := Lib.hid (show ks'.length = n by rw [HN'.out]; exact PB.out.2.2.1 rfl)
            go_wp2_with fail
            clear x0 x1 x2 x3 y0 y1 y2 y3 e1
            go_loopw [5, 6] (fun a b wx => Hid (Below W2.heap.size W2 wx) ∧ ∃ i : Nat, i ≤ n ∧ a = .int .i64 i ∧ Hid (∀ (p : Nat) (s : Bs) (x : V), p < i → ks[p]? = some s → l[p]? = some x → ∃ (j : Nat) (y : V), fnd ks' s = some j ∧ l'[j]? = some y ∧ sm x y = true)) (fun a _ _ => n - (intOf a).toNat)
            case atStart => exact ⟨Lib.hid (Below.refl _ _), 0, Nat.zero_le _, rfl, Lib.hid (fun p _ _ hp => absurd hp (by omega))⟩
            case round =>
            obtain ⟨HBR, i, hi, rfl, HQ⟩ := hrel
            have X := HX.out.on HBR.out
            have Y := HY.out.on HBR.out
            have x0 := X.c0
            have x2 := X.c2
            have x3 := X.c3
            have y0 := Y.c0
            have y1 := Y.c1
            have y2 := Y.c2
            have y3 := Y.c3
            clear X Y
            by_cases hlt : i < n
            · obtain ⟨x, hx⟩ := get_lt (l := l) (i := i) (by rw [← HN.out]; exact hlt)
              obtain ⟨s, hs⟩ := get_lt (l := ks) (i := i) (by rw [← HM.out, HMN.out]; exact hlt)
              obtain ⟨gk, ok, rfl, hgk, hfk⟩ := HKW.out (by rw [← HM.out, HMN.out]; omega)
              have c5 := cell_old HBR.out hgk (hfk i s hs)
              obtain ⟨S, hS⟩ : ∃ S, S = txt s := ⟨_, rfl⟩
              rw [← hS] at c5
              have him : i < m := by rw [HMN.out]; exact hlt
              obtain ⟨fz, hfz⟩ : ∃ fz, fz = fnI (fnd ks' s) := ⟨_, rfl⟩
              have CF := Lib.hid (fun q : Kept wr => FD.out q.wx (HUW.out.on (below_tr HBR.out q.held)) s hS hfz)
              have HFZ := Lib.hid hfz
              have HXS := Lib.hid (And.intro hx hs)
              have J0 := fun s : Kept wr => s.cell y0
              have J1 := fun s : Kept wr => s.cell y1
              have J2 := fun s : Kept wr => s.cell y2
              have J3 := fun s : Kept wr => s.cell y3
              have J4 := fun s : Kept wr => s.cell x3
              have J5 := fun s : Kept wr => s.cell c5
              clear hS hfz hx hs hfk
              go_upto_region 8 with fail
              refine reg_lit (C := fun wx => ∃ s : Kept wr, wx = s.wx) (by kernel_rfl) (by kernel_rfl) ⟨⟨_, (Below.refl _ _).drew⟩, rfl⟩ ?_
              iterate 6 (go_big_quiet_step (fail))
              go_big_quiet_want
              go_big_quiet_op
              refine ⟨.int .i64 fz, fun s => (CF.out s).mono ?_, ?_⟩
              · rintro e w3 ⟨rfl, hb⟩; exact Kept.out hb
              go_big_quiet_on
              iterate 1 (go_big_quiet_step (fail))
              refine wpQuiet_nil ?_
              rintro wc ⟨⟨wx, ox0⟩, e⟩
              have HC := Lib.hid (show Below wr.heap.size wr wc from by rw [e]; exact ox0)
              clear e ox0 J0 J1 J2 J3 J4 J5 CF c5
              have HC2 := Lib.hid (below_tr HBR.out HC.out)
              cases hf : fnd ks' s with
              | none =>
                have e1 : fz = -1 := by rw [HFZ.out, hf]; rfl
                subst e1
                have HE := Lib.hid (show R = false from by
                  cases hR : R with
                  | false => rfl
                  | true => obtain ⟨j, y, h1, _⟩ := HL.out.1 hR i s x HXS.out.2 HXS.out.1; rw [hf] at h1; cases h1)
                have HF := Lib.hid (below_tr HB2.out HC2.out)
                clear hf x0 x2 x3 y0 y1 y2 y3
                go_upto_region 9 with fail
                refine reg_lit (C := fun wx => ∃ s : Kept wc, wx = s.wx) (by kernel_rfl) (by kernel_rfl) ⟨⟨_, (Below.refl _ _).drew⟩, rfl⟩ ?_
                iterate 16 (go_big_quiet_step (fail))
                refine wpQuiet_nil ?_
                rintro wd ⟨⟨wx, ox0⟩, e⟩
                have HF2 := Lib.hid (show Below w.heap.size w wd from by rw [e]; exact below_tr HF.out ox0)
                clear e ox0
                go_wp2_with fail
                go_ret
                exact ⟨ret_bool HE.out.symm, HF2.out⟩
              | some j =>
                have e1 : fz = (j : Nat) := by rw [HFZ.out, hf]; rfl
                subst e1
                have hjn : j < n := by
                  have := (List.getElem?_eq_some_iff.1 (fnd_get hf)).1
                  rw [HMN'.out] at this; exact this
                obtain ⟨y, hy⟩ := get_lt (l := l') (i := j) (by rw [← HN'.out]; exact hjn)
                obtain ⟨g, o, rfl, hg, hf1⟩ := HVW.out (by rw [← HN.out]; omega)
                obtain ⟨g', o', rfl, hg', hf'⟩ := HVW'.out (by rw [← HN'.out]; omega)
                obtain ⟨v0, v1, v2, v3, d0, d1, d2, d3, hvm⟩ := hf1 i x HXS.out.1
                obtain ⟨u0, u1, u2, u3, q0, q1, q2, q3, hum⟩ := hf' j y hy
                have X := HX.out.on HC2.out
                have Y := HY.out.on HC2.out
                have z2 := X.c2
                have w2 := Y.c2
                have c0 := cell_old HC2.out hg d0
                have c1 := cell_old HC2.out hg d1
                have c2 := cell_old HC2.out hg d2
                have c3 := cell_old HC2.out hg d3
                have b0 := cell_old HC2.out hg' q0
                have b1 := cell_old HC2.out hg' q1
                have b2 := cell_old HC2.out hg' q2
                have b3 := cell_old HC2.out hg' q3
                have K0 := fun s : Kept wc => s.cell c0
                have K1 := fun s : Kept wc => s.cell c1
                have K2 := fun s : Kept wc => s.cell c2
                have K3 := fun s : Kept wc => s.cell c3
                have L0 := fun s : Kept wc => s.cell b0
                have L1 := fun s : Kept wc => s.cell b1
                have L2 := fun s : Kept wc => s.cell b2
                have L3 := fun s : Kept wc => s.cell b3
                have M2 := fun s : Kept wc => s.cell z2
                have M3 := fun s : Kept wc => s.cell w2
                have CI := Lib.hid (fun s : Kept wc => IH.out i j x y HXS.out.1 hy s.wx _ _ (hvm.on (below_tr HC2.out s.held)) (hum.on (below_tr HC2.out s.held)))
                obtain ⟨z, hz⟩ : ∃ z, z = sm x y := ⟨_, rfl⟩
                rw [← hz] at CI
                have HZ := Lib.hid hz
                have HFJ := Lib.hid (And.intro hf hy)
                have hdec : decide ((j : Int) < 0) = false := decide_eq_false (by omega)
                clear c0 c1 c2 c3 b0 b1 b2 b3 d0 d1 d2 d3 q0 q1 q2 q3 hvm hum hf hf' hf1 hy hz X Y x0 x2 x3 y0 y1 y2 y3 z2 w2
                go_upto_region 9 with fail
                refine reg_lit (C := fun wx => ∃ s : Kept wc, wx = s.wx) (by kernel_rfl) (by kernel_rfl) ⟨⟨_, (Below.refl _ _).drew⟩, rfl⟩ ?_
                iterate 13 (go_big_quiet_step (fail))
                go_big_quiet_want
                go_big_quiet_op
                refine ⟨.bool z, fun s => (CI.out s).mono ?_, ?_⟩
                · rintro e w3 ⟨rfl, hb⟩; exact Kept.out hb
                go_big_quiet_on
                iterate 2 (go_big_quiet_step (fail))
                refine wpQuiet_nil ?_
                rintro wd ⟨⟨wx, ox0⟩, e⟩
                have HD := Lib.hid (show Below W2.heap.size W2 wd from by rw [e]; exact below_tr HC2.out ox0)
                clear e ox0 K0 K1 K2 K3 L0 L1 L2 L3 M2 M3 CI
                cases z with
                | true =>
                  have HE := Lib.hid (show ∀ (p : Nat) (s : Bs) (x : V), p < i + 1 → ks[p]? = some s → l[p]? = some x → ∃ (j : Nat) (y : V), fnd ks' s = some j ∧ l'[j]? = some y ∧ sm x y = true from fun p a b hp ha hb => by
                    rcases Nat.lt_or_ge p i with h1 | h1
                    · exact HQ.out p a b h1 ha hb
                    · obtain rfl : p = i := by omega
                      obtain rfl := Option.some.inj (ha.symm.trans HXS.out.2)
                      obtain rfl := Option.some.inj (hb.symm.trans HXS.out.1)
                      exact ⟨j, y, HFJ.out.1, HFJ.out.2, HZ.out.symm⟩)
                  go_wp2_with fail
                  go_roundw
                  case rel => exact ⟨HD, i + 1, by omega, by go_num, HE⟩
                  case measure => simp [intOf]; omega
                | false =>
                  have HE := Lib.hid (show R = false from by
                    cases hR : R with
                    | false => rfl
                    | true =>
                      obtain ⟨j', y', h1, h2, h3⟩ := HL.out.1 hR i s x HXS.out.2 HXS.out.1
                      obtain rfl := Option.some.inj (h1.symm.trans HFJ.out.1)
                      obtain rfl := Option.some.inj (h2.symm.trans HFJ.out.2)
                      rw [← HZ.out] at h3; cases h3)
                  have HF := Lib.hid (below_tr HB2.out HD.out)
                  go_wp2_with fail
                  go_ret
                  exact ⟨ret_bool HE.out.symm, HF.out⟩
            · have HE := Lib.hid (show R = true from HL.out.2 fun p a b ha hb => HQ.out p a b (by have := (List.getElem?_eq_some_iff.1 hb).1; rw [← HN.out] at this; omega) ha hb)
              have HF := Lib.hid (below_tr HB2.out HBR.out)
              go_wp2_with fail
              go_ret
              exact ⟨ret_bool HE.out.symm, HF.out⟩
          · have HL := Lib.hid (show R = true ↔ ∀ (i : Nat) (x y : V), l[i]? = some x → l'[i]? = some y → sm x y = true from by
              have p := PA.out.2.1.resolve_left h8
              have p' := PB.out.2.1.resolve_left h8
              rw [HR.out, p, p']; exact sm_list h8 HLEN.out)
            have f8 : ((k : Int) == 8) = false := beq_eq_false_iff_ne.2 (by omega)
            clear h8
            go_wp2_with fail
            clear x0 x1 x2 x3 y0 y1 y2 y3 e1
            go_loopw [5, 6] (fun a b wx => Hid (Below W2.heap.size W2 wx) ∧ ∃ i : Nat, i ≤ n ∧ a = .int .i64 i ∧ Hid (∀ (p : Nat) (x y : V), p < i → l[p]? = some x → l'[p]? = some y → sm x y = true)) (fun a _ _ => n - (intOf a).toNat)
            case atStart => exact ⟨Lib.hid (Below.refl _ _), 0, Nat.zero_le _, rfl, Lib.hid (fun p _ _ hp => absurd hp (by omega))⟩
            case round =>
            obtain ⟨HBR, i, hi, rfl, HQ⟩ := hrel
            have X := HX.out.on HBR.out
            have Y := HY.out.on HBR.out
            have x0 := X.c0
            have x2 := X.c2
            have y2 := Y.c2
            clear X Y
            by_cases hlt : i < n
            · obtain ⟨x, hx⟩ := get_lt (l := l) (i := i) (by rw [← HN.out]; exact hlt)
              obtain ⟨y, hy⟩ := get_lt (l := l') (i := i) (by rw [← HN'.out]; exact hlt)
              obtain ⟨g, o, rfl, hg, hf⟩ := HVW.out (by rw [← HN.out]; omega)
              obtain ⟨g', o', rfl, hg', hf'⟩ := HVW'.out (by rw [← HN'.out]; omega)
              obtain ⟨v0, v1, v2, v3, d0, d1, d2, d3, hvm⟩ := hf i x hx
              obtain ⟨u0, u1, u2, u3, q0, q1, q2, q3, hum⟩ := hf' i y hy
              have c0 := cell_old HBR.out hg d0
              have c1 := cell_old HBR.out hg d1
              have c2 := cell_old HBR.out hg d2
              have c3 := cell_old HBR.out hg d3
              have b0 := cell_old HBR.out hg' q0
              have b1 := cell_old HBR.out hg' q1
              have b2 := cell_old HBR.out hg' q2
              have b3 := cell_old HBR.out hg' q3
              have K0 := fun s : Kept wr => s.cell c0
              have K1 := fun s : Kept wr => s.cell c1
              have K2 := fun s : Kept wr => s.cell c2
              have K3 := fun s : Kept wr => s.cell c3
              have L0 := fun s : Kept wr => s.cell b0
              have L1 := fun s : Kept wr => s.cell b1
              have L2 := fun s : Kept wr => s.cell b2
              have L3 := fun s : Kept wr => s.cell b3
              have M2 := fun s : Kept wr => s.cell x2
              have M3 := fun s : Kept wr => s.cell y2
              have CI := Lib.hid (fun s : Kept wr => IH.out i i x y hx hy s.wx _ _ (hvm.on (below_tr HBR.out s.held)) (hum.on (below_tr HBR.out s.held)))
              have HXY := Lib.hid (And.intro hx hy)
              obtain ⟨z, hz⟩ : ∃ z, z = sm x y := ⟨_, rfl⟩
              rw [← hz] at CI
              have HZ := Lib.hid hz
              clear c0 c1 c2 c3 b0 b1 b2 b3 d0 d1 d2 d3 q0 q1 q2 q3 hvm hum hf hf' hx hy hz
              have hdec : decide ((i : Int) < 0) = false := decide_eq_false (by omega)
              go_upto_region 9 with fail
              refine reg_lit (C := fun wx => ∃ s : Kept wr, wx = s.wx) (by kernel_rfl) (by kernel_rfl) ⟨⟨_, (Below.refl _ _).drew⟩, rfl⟩ ?_
              iterate 13 (go_big_quiet_step (fail))
              go_big_quiet_want
              go_big_quiet_op
              refine ⟨.bool z, fun s => (CI.out s).mono ?_, ?_⟩
              · rintro e w3 ⟨rfl, hb⟩; exact Kept.out hb
              go_big_quiet_on
              iterate 2 (go_big_quiet_step (fail))
              refine wpQuiet_nil ?_
              rintro wc ⟨⟨wx, ox0⟩, e⟩
              have HC := Lib.hid (show Below W2.heap.size W2 wc from by rw [e]; exact below_tr HBR.out ox0)
              clear e ox0 K0 K1 K2 K3 L0 L1 L2 L3 M2 M3 CI
              cases z with
              | true =>
                have HE := Lib.hid (show ∀ (p : Nat) (x y : V), p < i + 1 → l[p]? = some x → l'[p]? = some y → sm x y = true from fun p a b hp ha hb => by
                  rcases Nat.lt_or_ge p i with h1 | h1
                  · exact HQ.out p a b h1 ha hb
                  · obtain rfl : p = i := by omega
                    obtain rfl := Option.some.inj (ha.symm.trans HXY.out.1)
                    obtain rfl := Option.some.inj (hb.symm.trans HXY.out.2)
                    exact HZ.out.symm)
                go_wp2_with fail
                go_roundw
                case rel => exact ⟨HC, i + 1, by omega, by go_num, HE⟩
                case measure => simp [intOf]; omega
              | false =>
                have HE := Lib.hid (show R = false from by
                  cases hR : R with
                  | false => rfl
                  | true => have := HL.out.1 hR i _ _ HXY.out.1 HXY.out.2; rw [← HZ.out] at this; cases this)
                have HF := Lib.hid (below_tr HB2.out HC.out)
                go_wp2_with fail
                go_ret
                exact ⟨ret_bool HE.out.symm, HF.out⟩
            · have HE := Lib.hid (show R = true from HL.out.2 fun p a b ha hb => HQ.out p a b (by have := (List.getElem?_eq_some_iff.1 ha).1; rw [← HN.out] at this; omega) ha hb)
              have HF := Lib.hid (below_tr HB2.out HBR.out)
              go_wp2_with fail
              go_ret
              exact ⟨ret_bool HE.out.symm, HF.out⟩
        · have HE := Lib.hid (HNF.out (fun h => en (by rw [HN.out, HN'.out]; exact h.2.2)))
          have f1 : ((n : Int) != (n' : Int)) = true := bne_iff_ne.2 (by omega)
          go_wp2_with fail
          go_ret
          exact ⟨ret_bool HE.out.symm, HB2.out⟩
      · have HE := Lib.hid (HNF.out (fun h => et h.2.1))
        have f1 : ¬ T.toList = T'.toList := fun e => et (HTE.out.1 e)
        clear et
        go_wp2_with fail
        go_ret
        exact ⟨ret_bool HE.out.symm, HB2.out⟩
    · have HE := Lib.hid (HNF.out (fun h => ek h.1))
      have f1 : ((k : Int) != (k' : Int)) = true := bne_iff_ne.2 (by omega)
      clear ek
      go_wp2_with fail
      go_ret
      exact ⟨ret_bool HE.out.symm, HB2.out⟩
end Va
end Go.Proofs.YtnnlgodgaolkkaaGreatDoor
