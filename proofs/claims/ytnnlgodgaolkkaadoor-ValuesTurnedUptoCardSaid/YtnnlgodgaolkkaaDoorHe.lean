/- The document's: how deep a value is, where a key is. -/
import Derived.Test.YtnnlgodgaolkkaaDoorHd
import Derived.BigQuiet
import Derived.Lib.Strings
import Derived.Deep.QuietTactic
import Derived.Deep.Quiet
import Derived.Laws.CopyOwn
import Derived.Laws.AppendOwn
import Derived.Laws.Strings
import Derived.OwnWalk
import Derived.StillTailTactics
import Derived.Laws.Rows
import Derived.Deep.RegionLaw
namespace Go.Proofs.YtnnlgodgaolkkaaDoor
open Go.RowKit
namespace Va

set_option maxHeartbeats 4000000 in
set_option maxRecDepth 100000 in
theorem rdeep_any : ∀ (N : Nat) (x : V), wt x ≤ N → N ≤ 1000000000000 → ∀ (w : World) (v : Value), Vm w v x →
    Calls Tryd.prog 18 #[v] w fun e w' => e = .returned (.int .i64 (dp x : Nat)) ∧ Below w.heap.size w w'
  | 0, x, hx, _, _, _, _ => by have := wt_pos x; omega
  | N + 1, .mk k t l ks, hx, hN, w, v, hv => by
    obtain ⟨A, B, c, d, rfl, hk, hl, hc, hA, hd, hd2, hB, hK, hV⟩ := hv.inv
    have IH := Lib.hid (fun (i : Nat) (x : V) (hi : l[i]? = some x) (w : World) (v : Value) (h : Vm w v x) => rdeep_any N x (by have := wt_sub (k := k) (t := t) (ks := ks) hi; omega) (by omega) w v h)
    have HD : Hid (dpL l ≤ 1000000000000) := Lib.hid (by have := dpL_le l; have := hx; rw [wt] at this; omega)
    have HDP := Lib.hid (show dp (.mk k t l ks) = if k = 7 ∨ k = 8 then dpL l + 1 else 0 by rw [dp])
    have HV := Lib.hid hV
    obtain ⟨T, hT⟩ : ∃ T, T = txt t := ⟨_, rfl⟩
    obtain ⟨n, HN⟩ : ∃ n, Hid (n = l.length) := ⟨_, Lib.hid rfl⟩
    obtain ⟨m, HM⟩ : ∃ m, Hid (m = ks.length) := ⟨_, Lib.hid rfl⟩
    rw [← HN.out, ← HM.out, ← hT]
    rw [← HN.out] at hl
    rw [← HM.out] at hd
    have hn5 : n ≤ 1000000000000 := by rw [HN.out]; have := wtL_len l; rw [wt] at hx; omega
    clear hT hK hV hx hN hv
    by_cases hkk : k = 7 ∨ k = 8
    · have HR := Lib.hid (show dp (.mk k t l ks) = dpL l + 1 by rw [HDP.out, if_pos hkk])
      obtain ⟨W1, hW1⟩ : ∃ W, W = w.alloc (vO (.int .u8 k) (.string T) (.slice A n c) (.slice B m d)) := ⟨_, rfl⟩
      have HX := Lib.hid (show Bx W1 w.heap.size (.int .u8 k) (.string T) (.slice A n c) (.slice B m d) from by rw [hW1]; exact Bx.new ..)
      have HB1 := Lib.hid (show Below w.heap.size w W1 from by rw [hW1]; exact below_new ..)
      have HV1 := Lib.hid (HV.out.on HB1.out)
      go_enter Tryd.func18, Tryd.ntmps18
      go_upto_region 1 with fail
      rw [← hW1]
      obtain ⟨h, hh⟩ : ∃ h, h = w.heap.size := ⟨_, rfl⟩
      rw [← hh] at HX ⊢
      clear hW1 hh
      go_cut [12] from 5 to 12 (fun a wx => W1 = wx ∧ a = .bool false)
      case first =>
        have x0 := HX.out.c0
        rcases hkk with rfl | rfl
        · go_wp2_with fail
          go_meet
          exact ⟨by first | rfl | trivial, rfl⟩
        · go_wp2_with fail
          go_meet
          exact ⟨by first | rfl | trivial, rfl⟩
      case rest =>
        obtain ⟨rfl, rfl⟩ := hcut
        have x2 := HX.out.c2
        go_wp2_with fail
        clear x2
        go_loopw [3, 4] (fun a b wx => Hid (Below W1.heap.size W1 wx) ∧ ∃ q i : Nat, i ≤ n ∧ q ≤ 1000000000000 ∧ a = .int .i64 q ∧ b = .int .i64 i ∧ Hid (max q (dpL (l.drop i)) = dpL l)) (fun _ b _ => n - (intOf b).toNat)
        case atStart => exact ⟨Lib.hid (Below.refl _ _), 0, 0, Nat.zero_le _, by omega, rfl, rfl, Lib.hid (by rw [List.drop_zero]; omega)⟩
        case round =>
          obtain ⟨HBR, q, i, hi, hq, rfl, rfl, HQ⟩ := hrel
          have X := HX.out.on HBR.out
          have x2 := X.c2
          clear X
          by_cases hlt : i < n
          · obtain ⟨y, hy⟩ := get_lt (l := l) (i := i) (by rw [← HN.out]; exact hlt)
            obtain ⟨g, o, rfl, hg, hf⟩ := HV1.out (by rw [← HN.out]; omega)
            obtain ⟨v0, v1, v2, v3, d0, d1, d2, d3, hvm⟩ := hf i y hy
            have c0 := cell_old HBR.out hg d0
            have c1 := cell_old HBR.out hg d1
            have c2 := cell_old HBR.out hg d2
            have c3 := cell_old HBR.out hg d3
            have CI := Lib.hid (IH.out i y hy wr _ (hvm.on HBR.out))
            obtain ⟨r, hr⟩ : ∃ r, r = dp y := ⟨_, rfl⟩
            rw [← hr] at CI
            have e1 := dpL_drop hy
            obtain ⟨z, hz⟩ : ∃ z : Nat, max (q : Int) (r : Int) = (z : Nat) := ⟨max q r, by omega⟩
            have HE := Lib.hid (show max z (dpL (l.drop (i + 1))) = dpL l ∧ z ≤ 1000000000000 from by have hq1 := HQ.out; have := HD.out; rw [e1, ← hr] at hq1; omega)
            clear e1 d0 d1 d2 d3 hvm hf hr
            go_wp2_with fail
            refine CI.out.mono ?_
            rintro e w2 ⟨rfl, hb2⟩
            have HB2 := Lib.hid (below_tr HBR.out hb2)
            clear hb2 c0 c1 c2 c3
            go_wp2_with fail
            go_roundw
            case rel => exact ⟨HB2, z, i + 1, by omega, HE.out.2, by first | rfl | go_num, by go_num, Lib.hid HE.out.1⟩
            case measure => simp [intOf]; omega
          · have HE := Lib.hid (show q = dpL l from by have e := HQ.out; rw [dpL_end (by rw [← HN.out]; omega)] at e; omega)
            have HBF := Lib.hid (below_tr HB1.out HBR.out)
            go_wp2_with fail
            go_ret
            exact ⟨ret_int (by rw [HR.out, ← HE.out]; omega), HBF.out⟩
    · have HR := Lib.hid (show dp (.mk k t l ks) = 0 by rw [HDP.out, if_neg hkk])
      have e7 : ((k : Int) != 7) = true := bne_iff_ne.2 (by omega)
      have e8 : ((k : Int) != 8) = true := bne_iff_ne.2 (by omega)
      clear hkk
      go_enter Tryd.func18, Tryd.ntmps18
      go_wp2_with fail
      go_ret
      exact ⟨ret_int (by rw [HR.out]; rfl), below_new ..⟩
end Va
end Go.Proofs.YtnnlgodgaolkkaaDoor
/- The document's: where a key is; what a value's own parts must be. -/
namespace Go.Proofs.YtnnlgodgaolkkaaDoor
open Go.RowKit
namespace Va

theorem txt_inj {a b : Bs} (h : txt a = txt b) : a = b := by
  have := congrArg (fun s : ByteArray => s.data.toList) h
  simpa [txt] using this
theorem tl_eq {a b : Bs} {s t : ByteArray} (hs : s = txt a) (ht : t = txt b) : s.toList = t.toList ↔ a = b := by
  subst hs ht
  rw [Lib.toList_data, Lib.toList_data]
  simp [txt]
end Va
end Go.Proofs.YtnnlgodgaolkkaaDoor
/- Regions that draw, and whose callees make memory alone. -/
namespace Go.Proofs.YtnnlgodgaolkkaaDoor
open Go.RowKit
namespace Va

section
variable {P : Program} {ops : Array Oper} {C : World → Prop}
/-- A region that draws its order: one walk, in the order of the text, over worlds of a class of one's own. -/
theorem reg_lit {id : Nat} {Q : Exit → Act → World → Prop} {a : Act} {w : World} {l : List Oper} (hm : P.follows .mixedOrders = true) (hB : Region.lexB .any l.toArray = true) (hC : C w.drew)
    (h : wpQuiet P l.toArray C (fun a' => ∀ w', C w' → Q .normal a' w') l a) : (Code.region id l.toArray true).wp P Q a w := wp_region_quiet hm hB hC (by simpa using h)
end
/-- The worlds in which nothing that was there has turned. -/
structure Kept (w : World) where
  wx : World
  held : Below w.heap.size w wx
instance (w : World) : Nonempty (Kept w) := ⟨⟨w, Below.refl _ _⟩⟩
theorem Kept.out {w : World} {v : Value} {s : Kept w} {w' : World} (h : Below s.wx.heap.size s.wx w') : Ending.returned v = Ending.returned v ∧ ∃ t : Kept w, w' = t.wx := ⟨rfl, ⟨w', below_tr s.held h⟩, rfl⟩
theorem Kept.cell {w : World} (s : Kept w) {p : Addr} {v : Value} (h : w.cell? p = some v) : s.wx.cell? p = some v := (s.held.cell (World.block_lt_of_cell? w p h)).trans h
theorem sm_no {k k' : Nat} {t t' : Bs} {l l' : List V} {ks ks' : List Bs} (hm : may (.mk k t l ks) = true) (hm' : may (.mk k' t' l' ks') = true) (h : ¬ (k = k' ∧ t = t' ∧ l.length = l'.length)) : sm (.mk k t l ks) (.mk k' t' l' ks') = false := by
  cases hs : sm (.mk k t l ks) (.mk k' t' l' ks') with
  | false => rfl
  | true => exact absurd (sm_head hm hm' hs) h
theorem size_cap {_w : World} {l : List V} (h : wtL l ≤ 1000000000000) : l.length ≤ 1000000000000 := by have := wtL_len l; omega
end Va
end Go.Proofs.YtnnlgodgaolkkaaDoor
/- The document's: the places of a map's entries, in the order of their keys. -/
namespace Go.Proofs.YtnnlgodgaolkkaaDoor
open Go.RowKit
namespace Va

/-- Numbers in a row of one's own. -/
def IV (l : List Nat) : List Value := l.map fun j => .int .i64 (j : Nat)
theorem IV_len (l : List Nat) : (IV l).length = l.length := List.length_map _
theorem IV_get (l : List Nat) (p : Nat) : (IV l)[p]? = (l[p]?).map fun j => .int .i64 (j : Nat) := List.getElem?_map
def OI (wr : World) (base : Nat) (v : Value) (l : List Nat) : Prop := wr.ownsRow base 3 1 v l.length (IV l)
theorem OI.row {wr : World} {base : Nat} {v : Value} {l : List Nat} (h : OI wr base v l) (h0 : 0 < l.length) :
    ∃ g c cur, v = .slice (some ⟨g, 0, none⟩) l.length c ∧ base ≤ g ∧ g < wr.heap.size ∧ wr.heap[g]? = some (.cells cur 3 (0, 0)) ∧ l.length ≤ c ∧ c ≤ maxLen ∧ cur.size = c ∧ cur.toList.take l.length = IV l ∧ ∀ p j, l[p]? = some j → wr.cell? ⟨g, p, none⟩ = some (.int .i64 (j : Nat)) := by
  rcases h.2 with ⟨_, e⟩ | ⟨g, c, cur, rfl, hb, hg, h1, h2, h3, h4⟩
  · omega
  · rw [Nat.mul_one] at h3 h4
    refine ⟨g, c, cur, rfl, hb, (Array.getElem?_eq_some_iff.1 hg).1, hg, h1, h2, h3, h4, fun p j hp => ?_⟩
    have hpl := (List.getElem?_eq_some_iff.1 hp).1
    have e : (IV l)[p]? = some (.int .i64 (j : Nat)) := by rw [IV_get, hp]; rfl
    rw [← h4, List.getElem?_take, if_pos hpl] at e
    simp only [World.cell?, hg]
    rw [← Array.getElem?_toList]; exact e
theorem ins_at {ks : List Bs} {i : Nat} : ∀ {l : List Nat} {k : Nat}, (∀ p j : Nat, p < k → l[p]? = some j → bl (ks.getD j []) (ks.getD i []) = true) → k ≤ l.length → (∀ j : Nat, l[k]? = some j → bl (ks.getD j []) (ks.getD i []) = false) → ins ks i l = l.take k ++ i :: l.drop k
  | [], k, _, hk, _ => by
    obtain rfl : k = 0 := by simpa using hk
    rfl
  | j :: r, 0, _, _, h => by rw [ins, if_neg (by rw [h j rfl]; decide)]; rfl
  | j :: r, k + 1, h1, hk, h2 => by
    rw [ins, if_pos (h1 0 j (by omega) rfl), ins_at (l := r) (k := k) (fun p q hp hq => h1 (p + 1) q (by omega) (by simpa using hq)) (by simpa using hk) (fun q hq => h2 q (by simpa using hq))]
    rfl
theorem put_at {L X : List Value} {z y : Value} {n k : Nat} (hX : X.length = n) (hk : k ≤ n) (hL : L.take (n + 1) = X ++ [z]) : ((splice L (k + 1) (X.drop k)).set k y).take (n + 1) = X.take k ++ y :: X.drop k := by
  have hl : n + 1 ≤ L.length := by
    have := congrArg List.length hL
    rw [List.length_take, List.length_append, hX] at this
    simp at this; omega
  have e1 : L.take k = X.take k := by
    have := congrArg (List.take k) hL
    rw [List.take_take, Nat.min_eq_left (by omega), List.take_append_of_le_length (by omega)] at this
    exact this
  have e2 : L.take (k + 1) = X.take k ++ [L[k]'(by omega)] := by rw [List.take_add_one, e1, List.getElem?_eq_getElem (by omega)]; rfl
  have hxk : (X.take k).length = k := by rw [List.length_take]; omega
  have hxd : (X.drop k).length = n - k := by rw [List.length_drop, hX]
  unfold splice
  rw [e2, List.append_assoc, List.set_append_right _ _ (by omega), hxk, Nat.sub_self]
  show ((X.take k) ++ (y :: (X.drop k ++ L.drop (k + 1 + (X.drop k).length)))).take (n + 1) = _
  rw [show X.take k ++ (y :: (X.drop k ++ L.drop (k + 1 + (X.drop k).length))) = (X.take k ++ y :: X.drop k) ++ L.drop (k + 1 + (X.drop k).length) by simp]
  rw [List.take_append_of_le_length (by simp [hxk, hxd]; omega), List.take_of_length_le (by simp [hxk, hxd]; omega)]
theorem OI.on {w w' : World} {base : Nat} {v : Value} {l : List Nat} (h : OI w base v l) (hb : Below w.heap.size w w') : OI w' base v l := by
  refine ⟨h.1, ?_⟩
  rcases h.2 with e | ⟨g, c, cur, e, h1, hg, h2⟩
  · exact .inl e
  · exact .inr ⟨g, c, cur, e, h1, by rw [hb.block g (Array.getElem?_eq_some_iff.1 hg).1]; exact hg, h2⟩
theorem OI.low {w : World} {base base' : Nat} {v : Value} {l : List Nat} (h : OI w base v l) (hb : base' ≤ base) : OI w base' v l := by
  refine ⟨h.1, ?_⟩
  rcases h.2 with e | ⟨g, c, cur, e, h1, hg, h2⟩
  · exact .inl e
  · exact .inr ⟨g, c, cur, e, by omega, hg, h2⟩
theorem OI.nil (w : World) (base : Nat) : OI w base (.slice none 0 0) [] := World.ownsRow_nil _ _ _ 1
theorem OI.len {w : World} {base : Nat} {v : Value} {l : List Nat} (h : OI w base v l) : ∃ A c, v = .slice A l.length c ∧ l.length ≤ c := by
  rcases h.2 with ⟨e, h0⟩ | ⟨g, c, cur, e, _, _, h1, _⟩
  · exact ⟨none, 0, by rw [e, h0], by omega⟩
  · exact ⟨_, c, e, h1⟩
theorem cell_new1 (w : World) (t : TypeId) (u : Value) : ∀ j x, [u][j]? = some x → (w.alloc (.cells #[u] t)).cell? ((⟨w.heap.size, 0, none⟩ : Addr).add j) = some x := fun j x h => by
  rw [addAt, World.cell?_alloc_at _ _ _ _ rfl]
  cases j with
  | zero => simpa using h
  | succ j => simp at h
theorem bl_txt {a b : Bs} {S U : ByteArray} (hS : S = txt a) (hU : U = txt b) : Op.bytesLess S.toList U.toList = bl a b := by
  subst hS hU
  rw [Lib.toList_data, Lib.toList_data]
  simp [txt]
end Va
end Go.Proofs.YtnnlgodgaolkkaaDoor
/- The document's: are two values the same? -/
namespace Go.Proofs.YtnnlgodgaolkkaaDoor
open Go.RowKit
namespace Va

end Va
end Go.Proofs.YtnnlgodgaolkkaaDoor
