/- What landed of paths: Parse. -/
import Derived.Test.YtoebhnhiljlljaaDoorRe
import Derived.Test.YtoebhnhiljlljaaDoorPl
namespace Go.Proofs.YtoebhnhiljlljaaDoor
open Go.RowKit
namespace Pa
set_option maxRecDepth 100000

def slN : Value → Nat
  | .slice _ n _ => n
  | _ => 0
/-- The steps that are read so far, in a row of one's own. -/
structure PG (w wx : World) (ha hs : Nat) (l : Bs) (i : Nat) (v : Value) (p : List St) : Prop where
  below : Below w.heap.size w wx
  rs : RS wx ha hs l i
  hi : i ≤ l.length
  own : wx.ownsRow w.heap.size 32 4 v p.length (cel p)
  far : v.ownBlock ≠ some ha ∧ v.ownBlock ≠ some hs
  lo : w.heap.size ≤ ha ∧ w.heap.size ≤ hs
  len : p.length ≤ 512
  eq : pathL 512 l = (pathL (512 - p.length) (l.drop i)).map fun q => p ++ q
theorem PG.call {w wx wy : World} {ha hs i j : Nat} {l : Bs} {v : Value} {p : List St} (H : PG w wx ha hs l i v p) (hb : wx.grownBy wy (some ha)) (R : RS wy ha hs l j) (hj : j ≤ l.length) (e : pathL 512 l = (pathL (512 - p.length) (l.drop j)).map fun q => p ++ q) : PG w wy ha hs l j v p :=
  ⟨H.below.trans (gb_below hb H.lo.1 H.below.size), R, hj, own_on H.own fun k hk => hb.block k (World.ownsRow.lt H.own k hk).2 (by intro e2; exact H.far.1 (by rw [hk, e2])), H.far, H.lo, H.len, e⟩
theorem own_slice {w : World} {base : Nat} {e : TypeId} {s : Nat} {v : Value} {n : Nat} {xs : List Value} (h : w.ownsRow base e s v n xs) : ∃ A c, v = .slice A n c ∧ n ≤ c ∧ c ≤ maxLen ∧ (A = none → c = 0) := by
  rcases h.2 with ⟨e, h0⟩ | ⟨g, c, cur, e, _, _, h1, h2, _⟩
  · exact ⟨none, 0, by rw [e, h0], by omega, Nat.zero_le _, fun _ => rfl⟩
  · exact ⟨_, c, e, h1, h2, fun h => by cases h⟩
theorem PG.push {w wr w2 W3 w3 : World} {ha hs i j n c : Nat} {A : Option Addr} {l : Bs} {v' : Value} {p : List St} {x : St} (HP : PG w wr ha hs l i (.slice A n c) p) (HB : wr.grownBy w2 (some ha)) (R : RS w2 ha hs l j) (hj : j ≤ l.length) (h3 : Below w2.heap.size w2 W3) (ho : w3.ownsRow w.heap.size 32 4 v' (n + 1) (cel p ++ cel [x])) (hg : W3.grownBy w3 (Value.slice A n c).ownBlock) (hv : v'.ownBlock = (Value.slice A n c).ownBlock ∨ ∃ k, v'.ownBlock = some k ∧ w2.heap.size ≤ k) (hn : n = p.length) (h512 : n < 512) (e : pathL 512 l = (pathL (512 - (p ++ [x]).length) (l.drop j)).map fun q => (p ++ [x]) ++ q) : PG w w3 ha hs l j v' (p ++ [x]) := by
  have b2 : Below w.heap.size w w2 := HP.below.trans (gb_below HB HP.lo.1 HP.below.size)
  have b3 : Below w.heap.size w W3 := b2.trans (h3.mono b2.size)
  have l1 := (Array.getElem?_eq_some_iff.1 R.at_).1
  have l2 := (Array.getElem?_eq_some_iff.1 R.text).1
  refine ⟨b3.grown hg b3.size (fun k hk => (World.ownsRow.lt HP.own k hk).1), ⟨?_, ?_, R.ne⟩, hj, ?_, ?_, HP.lo, by simp; omega, e⟩
  · exact (hg.block ha (Nat.lt_of_lt_of_le l1 h3.size) (fun e => HP.far.1 e.symm)).trans ((h3.block _ l1).trans R.at_)
  · exact (hg.block hs (Nat.lt_of_lt_of_le l2 h3.size) (fun e => HP.far.2 e.symm)).trans ((h3.block _ l2).trans R.text)
  · rw [cel_app, List.length_append, ← hn]; exact ho
  · have := h3.size
    rcases hv with hv | ⟨k, hv, hk⟩ <;> rw [hv]
    · exact HP.far
    · constructor <;> (intro e; have := Option.some.inj e; omega)
theorem path_none {l r : Bs} {n : Nat} {p : List St} {c : UInt8} {s : Bs} (he : pathL 512 l = (pathL n r).map fun q => p ++ q) (hr : r = c :: s) (h : n = 0 ∨ stepL r = none) : pathL 512 l = none := by
  rw [he]
  subst hr
  rcases h with h | h
  · subst h; rfl
  · cases n with
    | zero => rfl
    | succ n => rw [pathL, h]; rfl
theorem path_step {l r q : Bs} {n : Nat} {p : List St} {c : UInt8} {s : Bs} {x : St} (he : pathL 512 l = (pathL (n + 1) r).map fun q => p ++ q) (hr : r = c :: s) (h : stepL r = some (x, q)) : pathL 512 l = (pathL n q).map fun q => (p ++ [x]) ++ q := by
  rw [he]
  subst hr
  rw [pathL, h]
  dsimp only
  cases pathL n q <;> simp
/-- What is answered of a text: the steps that it tells, in a row of one's own; or nothing. -/
def PP (w w' : World) (e : Ending) (o : Option (List St)) : Prop :=
  (∀ p, o = some p → ∃ A, e = .returned (.tuple #[.slice A p.length p.length, .bool true]) ∧ Sm w' A p.length p.length p ∧ ∀ a, A = some a → w.heap.size ≤ a.block) ∧ (o = none → e = .returned (.tuple #[.slice none 0 0, .bool false]))
theorem may_ok {s : St} (h : s.may = true) (hp : s.pos ≤ 9223372036854775807) : s.Ok := by
  obtain ⟨h1, h2, -⟩ := may_of h
  exact ⟨by omega, by omega, hp⟩
theorem own_sm {w' : World} {base n c : Nat} {A : Option Addr} {p : List St} (h : w'.ownsRow base 32 4 (.slice A n c) p.length (cel p)) (hn : n = p.length) (h0 : 0 < n) (ok : ∀ s ∈ p, s.Ok) : Sm w' A n n p ∧ ∀ a, A = some a → base ≤ a.block := by
  subst hn
  rcases h.2 with ⟨e, h1⟩ | ⟨g, c', cur, e, _, _, h1, h2, _⟩
  · omega
  · have e' := e
    injection e with e1 e2 e3
    subst e1 e3
    have hs := OS.sm (g := g) (n := c) (L := p) h ok
    exact ⟨⟨rfl, ⟨Nat.le_refl _, Nat.le_trans h1 h2⟩, (fun e => by cases e), hs.row, ok⟩, fun a e => by cases e; exact (World.ownsRow.lt h g rfl).1⟩
set_option maxHeartbeats 8000000 in
theorem steps_any {l : Bs} {S : ByteArray} (w : World) (hS : S = txt l) (hl : l.length ≤ 10000000) (hT : TL w) :
    Calls Tryd.prog 21 #[.string S] w fun e w' => PP w w' e (match pathL 512 l with | some p => if p ≠ [] then some p else none | none => none) ∧ Below w.heap.size w w' := by
  obtain ⟨i0, hi, hz0, hz1, hz2⟩ := step_info
  obtain ⟨R, hR⟩ : ∃ R, R = (match pathL 512 l with | some p => if p ≠ [] then some p else none | none => none) := ⟨_, rfl⟩
  rw [← hR]
  have HR := Lib.hid hR
  have HT := Lib.hid hT
  have HL := Lib.hid hl
  have HS := Lib.hid hS
  have HZ := Lib.hid (show S.size = l.length by rw [hS, txt_size])
  obtain ⟨W1, hW1⟩ : ∃ W, W = w.alloc (.cells #[.string S] 9) := ⟨_, rfl⟩
  obtain ⟨W2, hW2⟩ : ∃ W, W = W1.alloc (.cells #[.int .i64 0] 3) := ⟨_, rfl⟩
  have hb1 : Below w.heap.size w W1 := by rw [hW1]; exact below_new ..
  have hb2 : Below W1.heap.size W1 W2 := by rw [hW2]; exact below_new ..
  have hsz : w.heap.size + 1 = W1.heap.size := by rw [hW1]; show _ = (w.heap.push _).size; rw [Array.size_push]
  have P0 := Lib.hid (show PG w W2 W1.heap.size w.heap.size l 0 (.slice none 0 0) [] from
    ⟨below_tr hb1 hb2, ⟨by rw [hW2]; exact heap_alloc_new .., (hb2.block _ (by omega)).trans (by rw [hW1, hS]; exact heap_alloc_new ..), by omega⟩, Nat.zero_le _, World.ownsRow_nil _ _ _ _, by simp [Value.ownBlock], by omega, by decide, by rw [List.drop_zero]; show _ = (pathL 512 l).map _; cases pathL 512 l <;> simp⟩)
  have HW1 := Lib.hid hW1
  have HW2 := Lib.hid hW2
  have HSZ := Lib.hid hsz
  clear hR hS hl hT hW1 hW2 hb1 hb2
  go_enter Tryd.func21, Tryd.ntmps21
  go_upto_region 2 with fail
  rw [← HW1.out, ← HW2.out]
  obtain ⟨ha, hha⟩ : ∃ h, h = W1.heap.size := ⟨_, rfl⟩
  obtain ⟨hs, hhs⟩ : ∃ h, h = w.heap.size := ⟨_, rfl⟩
  rw [← hha, ← hhs] at P0
  rw [← hha, ← hhs]
  clear hha hhs hsz HW1 HW2 HSZ
  go_wp2_with fail
  go_loopw [6, 7, 8, 14] (fun a _ _ _ wx => ∃ (A : Option Addr) (n c : Nat), n ≤ 512 ∧ (n = 0 → A = none) ∧ a = .slice A n c ∧ Hid (∃ (p : List St) (i : Nat), n = p.length ∧ PG w wx ha hs l i (.slice A n c) p)) (fun a _ _ _ _ => 513 - slN a)
  case atStart => exact ⟨none, 0, 0, by omega, fun _ => rfl, rfl, Lib.hid ⟨[], 0, rfl, P0.out⟩⟩
  case round =>
    obtain ⟨A, n, c, hn, hA0, rfl, HX⟩ := hrel
    have HA0 := Lib.hid hA0
    clear hA0
    obtain ⟨p, hp⟩ := HX.out
    obtain ⟨i, hnp, hP⟩ := hp
    have HP := Lib.hid hP
    have HN := Lib.hid hnp
    obtain ⟨x0, x1', -⟩ := hP.rs.cells
    have x1 : wr.cell? ⟨hs, 0, none⟩ = some (.string S) := by rw [HS.out]; exact x1'
    clear HX hP hnp x1'
    by_cases hlt : i < S.size
    · obtain ⟨ch, rest, HCR⟩ : ∃ ch rest, Hid (l.drop i = ch :: rest) := by
        have h9 : i < l.length := by rw [← HZ.out]; exact hlt
        exact ⟨_, _, Lib.hid (List.drop_eq_getElem_cons h9)⟩
      have CS := Lib.hid (rstep_any wr HP.out.rs HP.out.hi HL.out (fun w' hb => HT.out.up (HP.out.below.trans (gb_below hb HP.out.lo.1 HP.out.below.size))))
      cases hst : stepL (l.drop i) with
      | none =>
        have HE := Lib.hid (show R = none by rw [HR.out, path_none HP.out.eq HCR.out (.inr hst)])
        rw [hst] at CS
        clear hst
        go_wp2_with fail
        refine CS.out.mono ?_
        rintro e w2 ⟨⟨y, rfl, -⟩, hb⟩
        have HB := Lib.hid (show Below w.heap.size w w2 from HP.out.below.trans (gb_below hb HP.out.lo.1 HP.out.below.size))
        clear hb x0 x1
        go_wp2_with fail
        refine bodyPost_ret (v := .tuple #[.slice none 0 0, .bool false]) (by simp [results, Tryd.results21, go_sem, *]) rfl ?_
        exact ⟨⟨fun p e => (by rw [HE.out] at e; cases e), fun _ => rfl⟩, below_tr HB.out (below_new ..)⟩
      | some xq =>
        obtain ⟨x, q⟩ := xq
        have HST := Lib.hid hst
        rw [hst] at CS
        clear hst
        go_wp2_with fail
        refine CS.out.mono ?_
        rintro e w2 ⟨⟨y, rfl, hsp⟩, hb⟩
        obtain ⟨hy, j, hj, hq, hij, hR2⟩ := hsp x q HST.out
        have HB := Lib.hid hb
        have HRR := Lib.hid (And.intro hj (And.intro hq (And.intro hij hR2)))
        rw [hy]
        clear hb x0 x1 hsp hy hj hq hij hR2
        by_cases h512 : n = 512
        · have HE := Lib.hid (show R = none by rw [HR.out, path_none HP.out.eq HCR.out (.inl (by rw [← HN.out, h512]))])
          have HBW := Lib.hid (show Below w.heap.size w w2 from HP.out.below.trans (gb_below HB.out HP.out.lo.1 HP.out.below.size))
          subst h512
          go_wp2_with fail
          refine bodyPost_ret (v := .tuple #[.slice none 0 0, .bool false]) (by simp [results, Tryd.results21, go_sem, *]) rfl ?_
          exact ⟨⟨fun p e => (by rw [HE.out] at e; cases e), fun _ => rfl⟩, below_tr HBW.out (below_new ..)⟩
        · have h513 : ((n : Int) == 512) = false := by simp; omega
          have HM := Lib.hid (show n < 512 by omega)
          obtain ⟨m, hm⟩ : ∃ m, 512 - p.length = m + 1 := ⟨511 - n, by have := HN.out; omega⟩
          have P2 := Lib.hid (show pathL 512 l = (pathL (512 - (p ++ [x]).length) (l.drop j)).map (fun q => (p ++ [x]) ++ q) from by
            have h1 := HP.out.eq
            rw [hm] at h1
            have h2 := path_step h1 HCR.out HST.out
            rw [HRR.out.2.1] at h2
            rw [h2, List.length_append, show 512 - (p.length + [x].length) = m by simp; omega])
          have OW := Lib.hid (show w2.ownsRow w.heap.size 32 4 (.slice A n c) n (cel p) from by
            have h := HP.out.own
            rw [← HN.out] at h
            exact own_on h fun k hk => HB.out.block k (World.ownsRow.lt h k hk).2 (by intro e2; exact HP.out.far.1 (by rw [hk, e2])))
          have HS2 := Lib.hid (show w.heap.size ≤ w2.heap.size from Nat.le_trans HP.out.below.size HB.out.size)
          clear hm
          go_wp2_with (at_builtin; refine wpAppV _ rfl (.tmp 26) (.tmp 28) 22 rfl w.heap.size 32 i0 (.agg #[.int .u8 0, .string ⟨#[]⟩, .string ⟨#[]⟩, .int .i64 0]) 4 48 Tryd.underlying22 hi hz0 hz1 hz2 rfl (by decide) (.slice A n c) n (cel p) rfl ((OW.out.alloc _).alloc _) ⟨w2.heap.size + 1, 0, none⟩ 1 1 (cel [x]) ?c0 (cel_len _) ?c1 cel_ones ?c3 ?c4 ?c5 ?_)
          case c0 => rfl
          case c1 =>
            rw [cel_one]
            intro j u hj
            have hL := (List.getElem?_eq_some_iff.1 hj).1
            have h4 : j = 0 ∨ j = 1 ∨ j = 2 ∨ j = 3 := by simp [stC] at hL; omega
            have hsz : (w2.alloc (.cells #[.int .u8 x.kind, .string (txt x.text), .string (txt x.id), .int .i64 x.pos] 32)).heap.size = w2.heap.size + 1 := Array.size_push ..
            rw [← hsz]
            rcases h4 with rfl | rfl | rfl | rfl <;> (simp [stC] at hj; subst hj; simp [Addr.add])
          case c3 => unfold maxLen; have := HM.out; omega
          case c4 => have := HM.out; omega
          case c5 => have := HS2.out; show w.heap.size ≤ ((w2.heap.push _).push _).size; rw [Array.size_push, Array.size_push]; omega
          intro v' w3 ho hg hv
          have P3 := HP.out.push HB.out HRR.out.2.2.2 HRR.out.1 (below_tr (below_new ..) (below_new ..)) ho hg (hv.imp id fun e => ⟨_, e, by omega⟩) HN.out HM.out P2.out
          obtain ⟨A', c', rfl, -, -, -⟩ := own_slice ho
          have P3 := Lib.hid P3
          have HN2 := Lib.hid (show n + 1 = (p ++ [x]).length by rw [List.length_append, ← HN.out]; rfl)
          clear ho hg hv
          go_wp2_with fail
          go_roundw
          case rel => exact ⟨A', n + 1, c', by have := HM.out; omega, (fun e => by omega), by first | rfl | trivial, Lib.hid ⟨p ++ [x], j, HN2.out, P3.out⟩⟩
          case measure => have := HM.out; simp [slN]; omega
    · have hie : i = S.size := by have := HP.out.hi; have := HZ.out; omega
      have HE := Lib.hid (show pathL 512 l = some p by
        rw [HP.out.eq, List.drop_eq_nil_of_le (by rw [hie, HZ.out]; exact Nat.le_refl _)]
        cases 512 - p.length <;> simp [pathL])
      obtain ⟨hnc, hcm, hAn⟩ : n ≤ c ∧ c ≤ maxLen ∧ (A = none → c = 0) := by
        obtain ⟨A2, c2, e, h1, h2, h3⟩ := own_slice HP.out.own
        injection e with e1 e2 e3
        subst e1 e3
        exact ⟨by rw [HN.out]; exact h1, h2, h3⟩
      have HAN := Lib.hid (And.intro hnc (And.intro hcm hAn))
      have CC := Lib.hid (show Calls Tryd.prog 40 #[.slice A n c] wr fun e w' => e = .returned (.slice A n n) ∧ wr = w' from by
        clear HP HE
        go_enter Tryd.func40, Tryd.ntmps40
        go_wp2_with fail
        go_ret
        exact ⟨rfl, rfl⟩)
      clear hnc hcm hAn
      by_cases h0 : n = 0
      · obtain rfl := HA0.out h0
        have hp0 : p = [] := List.eq_nil_of_length_eq_zero (by rw [← HN.out]; exact h0)
        have HRN := Lib.hid (show R = none by rw [HR.out, HE.out, hp0]; rfl)
        have HBW := Lib.hid HP.out.below
        subst h0
        clear hp0 HP
        go_wp2_with fail
        refine CC.out.mono ?_
        rintro e w2 ⟨rfl, rfl⟩
        go_wp2_with fail
        refine bodyPost_ret (v := .tuple #[.slice none 0 0, .bool false]) (by simp [results, Tryd.results21, go_sem, *]) rfl ?_
        exact ⟨⟨fun p e => (by rw [HRN.out] at e; cases e), fun _ => rfl⟩, HBW.out⟩
      · have HRN := Lib.hid (show R = some p by
          rw [HR.out, HE.out]
          dsimp only
          rw [if_pos (by intro e; apply h0; rw [HN.out, e]; rfl)])
        have hn0 : (0 : Int) < n := by omega
        have hn1 : 0 < n := by omega
        have HBW := Lib.hid HP.out.below
        have HOW := Lib.hid HP.out.own
        clear HP
        go_wp2_with fail
        refine CC.out.mono ?_
        rintro e w2 ⟨rfl, rfl⟩
        go_wp2_with fail
        refine bodyPost_ret (v := .tuple #[.slice A n n, .bool true]) (by simp [results, Tryd.results21, go_sem, *]) rfl ?_
        refine ⟨⟨fun p' e => ?_, fun e => (by rw [HRN.out] at e; cases e)⟩, HBW.out⟩
        rw [HRN.out] at e
        obtain rfl := Option.some.inj e
        obtain ⟨_, a2, a3, _⟩ := pathL_some HE.out
        rw [List.all_eq_true] at a2
        obtain ⟨hs, hf⟩ := own_sm HOW.out HN.out hn1 (fun s hs => may_ok (a2 s hs) (a3 s hs))
        rw [← HN.out]
        exact ⟨A, rfl, hs, hf⟩
set_option maxHeartbeats 4000000 in
theorem parse_any {l : Bs} {S : ByteArray} (w : World) (hS : S = txt l) (hl : l.length ≤ 10000000) (hT : TL w) :
    Calls Tryd.prog 9 #[.string S] w fun e w' => PP w w' e (pL l) ∧ Below w.heap.size w w' := by
  by_cases h : l = [46]
  · have hp : pL l = some [] := by unfold pL; rw [if_pos h]
    have hS1 : S = ⟨#[46]⟩ := by rw [hS, h]; rfl
    subst hS1
    rw [hp]
    clear hp hS hT hl h
    go_enter Tryd.func9, Tryd.ntmps9
    go_wp2_with fail
    refine bodyPost_ret (v := .tuple #[.slice (some ⟨w.heap.size, 0, none⟩) 0 0, .bool true]) (by simp [results, Tryd.results9, go_sem, *]) rfl ?_
    refine ⟨⟨fun p e => ?_, fun e => (by cases e)⟩, below_new ..⟩
    obtain rfl := Option.some.inj e
    exact ⟨_, rfl, ⟨rfl, ⟨Nat.le_refl _, Nat.zero_le _⟩, fun _ => rfl, fun h => (by cases h), fun s hs => (by cases hs)⟩, fun a e => by cases e; exact Nat.le_refl _⟩
  · have hp : pL l = (match pathL 512 l with | some p => if p ≠ [] then some p else none | none => none) := by unfold pL; rw [if_neg h]; cases pathL 512 l <;> rfl
    have CS := Lib.hid (show Calls Tryd.prog 21 #[.string S] w fun e w' => PP w w' e (pL l) ∧ Below w.heap.size w w' from by rw [hp]; exact steps_any w hS hl hT)
    have hne : (S.toList == [46]) = false := by
      rw [hS, show ([46] : List UInt8) = (txt [46]).toList by simp [txt], Bool.eq_false_iff]
      intro e
      exact h (txt_list.1 (by simpa using e))
    generalize pL l = o at CS ⊢
    clear hp hS hT hl h
    go_enter Tryd.func9, Tryd.ntmps9
    go_wp2_with fail
    refine CS.out.mono ?_
    rintro e w2 ⟨⟨h1, h2⟩, hb⟩
    cases o with
    | none =>
      obtain rfl := h2 rfl
      go_wp2_with fail
      refine bodyPost_ret (v := .tuple #[.slice none 0 0, .bool false]) (by simp [results, Tryd.results9, go_sem, *]) rfl ?_
      exact ⟨⟨fun p e => (by cases e), fun _ => rfl⟩, hb⟩
    | some p =>
      obtain ⟨A, rfl, hs, hf⟩ := h1 p rfl
      go_wp2_with fail
      refine bodyPost_ret (v := .tuple #[.slice A p.length p.length, .bool true]) (by simp [results, Tryd.results9, go_sem, *]) rfl ?_
      exact ⟨⟨fun p' e => (by obtain rfl := Option.some.inj e; exact ⟨A, rfl, hs, hf⟩), fun e => (by cases e)⟩, hb⟩
end Pa
end Go.Proofs.YtoebhnhiljlljaaDoor
