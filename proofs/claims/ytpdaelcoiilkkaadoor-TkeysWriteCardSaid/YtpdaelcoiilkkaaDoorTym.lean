/- The law TkeysWrite, walked. -/
import Derived.Test.YtpdaelcoiilkkaaDoorTyk
import Derived.Deep.DeepAppendRoom
namespace Go.Proofs.YtpdaelcoiilkkaaDoor
open Go.RowKit
namespace Ty

theorem Txs.cell {w : World} {A : Option Addr} {n : Nat} {L : List Bs} (h : Txs w A n L) {k : Nat} (hk : k < n) : ∃ b off, A = some ⟨b, off, none⟩ ∧ b < w.heap.size ∧ ∀ j, j < n → w.cell? ⟨b, off + j, none⟩ = some (.string (txt (L.getD j []))) := h.2 (by omega)
theorem own_txs {w : World} {base n c : Nat} {A : Option Addr} {L : List Bs} (hn : n = L.length) (h : w.ownsRow base 9 1 (.slice A n c) n (L.map fun l => .string (txt l))) : Txs w A n L := by
  refine ⟨hn, fun h0 => ?_⟩
  rcases h.2 with ⟨e, h0'⟩ | ⟨g, cap, cur, e, hb, hg, h1, h2, h3, h4⟩
  · omega
  · injection e with e _ _
    refine ⟨g, 0, e, lt_of hg, fun j hj => ?_⟩
    rw [cell_of_row w g _ cur _ (0, 0) hg, ← Array.getElem?_toList, Nat.zero_add]
    have h5 : (L.map fun l => Value.string (txt l))[j]? = some (.string (txt (L.getD j []))) := by
      rw [List.getElem?_map, List.getD_eq_getElem?_getD, List.getElem?_eq_getElem (by omega)]; rfl
    rw [← h4, List.getElem?_take] at h5
    split at h5
    · exact h5
    · cases h5
set_option maxHeartbeats 8000000 in
set_option maxRecDepth 100000 in
theorem lawk_long {A : Option Addr} {n c : Nat} {w : World} (hn : 100 < n) (hT : Tab w) :
    Calls Tryd.prog 4 #[.slice A n c] w fun e w' => e = .returned (.bool true) ∧ Below w.heap.size w w' := by
  have HT := Lib.hid hT
  have h' : (100 : Int) < n := by omega
  clear hT
  go_enter Tryd.func4, Tryd.ntmps4
  go_wp2_with (go_at_call 7; refine (lives_any HT.out).mono ?_; rintro e w' ⟨rfl, hb⟩)
  go_ret
  exact ⟨rfl, hb⟩
/-- Behind the copy: the words twice, the second time a row of the call's own. -/
structure Two (w wr : World) (A B : Option Addr) (n : Nat) (L : List Bs) : Prop where
  below : Below w.heap.size w wr
  a : Txs wr A n L
  b : Txs wr B n L
theorem Two.on {w wr w' : World} {A B : Option Addr} {n : Nat} {L : List Bs} (h : Two w wr A B n L) (hb : Below wr.heap.size wr w') : Two w w' A B n L := ⟨below_tr h.below hb, h.a.below hb, h.b.below hb⟩
/-- append onto a row of the call's own, which may grow, from a slice that may be nil. -/
theorem wpAppG {P : Program} (w : World) {ops : Array Oper} {rest : List Oper} {o : Oper} {a : Act} {Q : Exit → Act → World → Prop} (hg : o.guard = none) (s x : Operand) (t : TypeId) (hop : o.op = Op.call { callee := Callee.builtin Builtin.append, args := #[s, x], argTypes := #[t, t] })
    (base : Nat) (e : TypeId) (i : TypeInfo) (z : Value) (bytes : Nat) (h1 : P.underlying t = some (.slice e)) (h2 : P.info? e = some i) (h3 : i.zero = some z) (h4 : i.size = 1) (h5 : i.bytes = bytes) (h6 : z.cells.size = 1)
    (v : Value) (n : Nat) (xs : List Value) (hs : a.eval s = v) (hown : w.ownsRow base e 1 v n xs) (ao : Option Addr) (m c : Nat) (news : List Value) (hx : a.eval x = .slice ao m c) (hl : news.length = m) (hcells : ∀ ad, ao = some ad → ∀ j u, news[j]? = some u → w.cell? (ad.add j) = some u) (hone : ∀ u ∈ news, u.oneCell' = true) (hnone : ao = none → m = 0 ∧ c = 0)
    (h63 : n + m ≤ maxLen) (hbytes : (n + m) * bytes ≤ 140737488355328) (hbase : base ≤ w.heap.size)
    (hK : ∀ v' w', w'.ownsRow base e 1 v' (n + m) (xs ++ news) → w.grownBy w' v.ownBlock → (v'.ownBlock = v.ownBlock ∨ v'.ownBlock = some w.heap.size) → wpList P ops Q rest (a.put o.dst v') w') : wpList P ops Q (o :: rest) a w := by
  refine wpList_plain hg fun K hK' => ?_
  cases ao with
  | some ad =>
    obtain ⟨v', w', hrun, r1, r2, _, r3⟩ := run_append_own_at (P := P) w base t o.type e i z 1 bytes h1 h2 h3 h4 h5 h6 (by omega) v n xs hown ad m c news (by omega) (hcells ad rfl) hone h63 hbytes hbase
    unfold Oper.wp
    simp [execOp, hop, resolve, invoke, builtin, hs, hx, hrun, Result.andThen]
    exact hK' _ _ (hK v' w' r1 r2 r3)
  | none =>
    obtain ⟨rfl, rfl⟩ := hnone rfl
    obtain rfl : news = [] := List.eq_nil_of_length_eq_zero hl
    have hrun := run_append_owned_none (P := P) w base t o.type e i 1 h1 h2 _ n xs hown
    unfold Oper.wp
    simp [execOp, hop, resolve, invoke, builtin, hs, hx, hrun, Result.andThen]
    exact hK' _ _ (hK v w (by simpa using hown) (World.grownBy.refl _ _) (.inl rfl))
theorem words_cells {w : World} {A : Option Addr} {n : Nat} {L : List Bs} (h : Txs w A n L) (ad : Addr) (ha : A = some ad) (j : Nat) (u : Value) (hu : (L.map fun l => Value.string (txt l))[j]? = some u) : w.cell? (ad.add j) = some u := by
  have hj : j < n := by
    have := (List.getElem?_eq_some_iff.1 hu).1
    rw [List.length_map] at this
    rw [h.1]; exact this
  obtain ⟨b, off, e, _, hc⟩ := h.cell hj
  rw [ha] at e
  obtain rfl := Option.some.inj e
  rw [addAt, hc j hj]
  rw [List.getElem?_map, List.getElem?_eq_getElem (by rw [← h.1]; exact hj)] at hu
  rw [List.getD_eq_getElem?_getD, List.getElem?_eq_getElem (by rw [← h.1]; exact hj)]
  exact hu
theorem getD_out {L : List Bs} {k : Nat} (h : L.length ≤ k) : L.getD k [] = [] := by rw [List.getD_eq_getElem?_getD, List.getElem?_eq_none h]; rfl
set_option maxHeartbeats 16000000 in
set_option maxRecDepth 100000 in
theorem lawk_short {L : List Bs} {A : Option Addr} {n c : Nat} {w : World} (hA : Txs w A n L) (hn : n ≤ 100) (hc : n ≤ c) (hcm : c ≤ maxLen) (hnil : A = none → c = 0) (hT : Tab w) :
    Calls Tryd.prog 4 #[.slice A n c] w fun e w' => e = .returned (.bool true) ∧ Below w.heap.size w w' := by
  obtain ⟨iT, hT0, hT1, hT2, hT3⟩ := info_parts (show (Tryd.prog.info? 9).map (fun i => (i.zero, i.size, i.bytes)) = some (some (.string ⟨#[]⟩), 1, 16) by kernel_rfl)
  have HA := Lib.hid hA
  have HT := Lib.hid hT
  have HNIL := Lib.hid (show A = none → n = 0 ∧ c = 0 from fun h => ⟨by have := hnil h; omega, hnil h⟩)
  have h' : ¬ (100 : Int) < n := by omega
  unfold maxLen at hcm
  clear hA hT hnil
  go_enter Tryd.func4, Tryd.ntmps4
  go_upto_region 3 with fail
  go_cut [3] from 6 to 56 (fun v wx => ∃ B cb, v = .slice B n cb ∧ n ≤ cb ∧ Two w wx A B n L)
  case first =>
    go_wp2_with (at_builtin; refine wpAppG _ rfl (.const (.slice none 0 0)) (.tmp 10) 23 rfl w.heap.size 9 iT (.string ⟨#[]⟩) 16 Tryd.underlying23 hT0 hT1 hT2 hT3 rfl (.slice none 0 0) 0 [] rfl (World.ownsRow_nil _ _ _ _) A n c (L.map fun l => .string (txt l)) rfl (by rw [List.length_map, HA.out.1]) (words_cells HA.out) (by intro u hu; obtain ⟨l, _, rfl⟩ := List.mem_map.1 hu; rfl) HNIL.out (by unfold maxLen; omega) (by omega) (Nat.le_refl _) ?_; intro v' w9 hown9 hg9 _)
    go_meet
    have hown : w9.ownsRow w.heap.size 9 1 v' n (L.map fun l => .string (txt l)) := by rw [Nat.zero_add] at hown9; exact hown9
    obtain ⟨B, cb, rfl, q1, q2⟩ := own_shape hown
    have hb : Below w.heap.size w w9 := (Below.refl _ _).grown hg9 (Nat.le_refl _) (fun _ h => by cases h)
    exact ⟨B, cb, rfl, q1, hb, HA.out.below hb, own_txs HA.out.1 hown⟩
  case rest =>
    obtain ⟨B, cb, rfl, hcb, hTw⟩ := hcut
    have HTW := Lib.hid hTw
    clear hTw
    go_wp2_with fail
    go_loopw [4] (fun i wr => ∃ k : Nat, k ≤ n ∧ i = .int .i64 k ∧ Hid (∀ j, j < k → (L.getD j []).length ≤ 100) ∧ Hid (Two w wr A B n L)) (fun i _ => n - (intOf i).toNat)
    case atStart => exact ⟨0, Nat.zero_le _, rfl, Lib.hid (fun j h => by omega), HTW⟩
    case round =>
      obtain ⟨k, hk, rfl, HLE, HR⟩ := hrel
      by_cases hlt : k < n
      · obtain ⟨b, off, rfl, _, hcs⟩ := HR.out.b.cell hlt
        obtain ⟨x, hx⟩ : ∃ x, x = txt (L.getD k []) := ⟨_, rfl⟩
        have c1 := hcs k hlt
        rw [← hx] at c1
        obtain ⟨l, hl⟩ : ∃ l, l = L.getD k [] := ⟨_, rfl⟩
        have HX := Lib.hid (show x = txt l by rw [hl]; exact hx)
        have HXS := Lib.hid (show x.size = l.length by rw [HX.out, txt_size])
        have HLL := Lib.hid hl
        clear hcs hx hl
        by_cases hbig : x.size ≤ 100
        case neg =>
          have hbig2 : (100 : Int) < x.size := by omega
          go_wp2_with (go_at_call 7; refine (lives_any (HT.out.below HR.out.below)).mono ?_; rintro e w' ⟨rfl, hb⟩)
          go_ret
          exact ⟨rfl, below_tr HR.out.below hb⟩
        have hbig2 : ¬ (100 : Int) < x.size := by omega
        obtain ⟨q, hq⟩ : ∃ q, q = bareB l := ⟨_, rfl⟩
        have HQ := Lib.hid hq
        have HLE2 := Lib.hid (show ∀ j, j < k + 1 → (L.getD j []).length ≤ 100 from fun j hj => by
          by_cases h : j < k
          · exact HLE.out j h
          · obtain rfl : j = k := by omega
            rw [← HLL.out, ← HXS.out]; exact hbig)
        have hl6 : Hid (l.length ≤ 1000000) := Lib.hid (by rw [← HXS.out]; omega)
        clear hq
        go_upto_region 9 with fail
        go_cut [35] from 12 to 35 (fun v wx => v = .bool false ∧ ∃ nq, wx = wr.drewN nq)
        case first =>
          cases q
          all_goals
            go_quiet (first
              | (go_at_call 14; refine (bare_any HX.out hl6.out _ HQ.out).mono ?_; rintro _ _ ⟨rfl, rfl⟩; exact ⟨rfl, _, rfl⟩)
              | (go_at_call 15; refine (rbare_any HX.out hl6.out _ HQ.out).mono ?_; rintro _ _ ⟨rfl, rfl⟩; exact ⟨rfl, _, rfl⟩))
            go_wp2_with fail
            go_meet
            exact ⟨rfl, _, rfl⟩
        case rest =>
          obtain ⟨rfl, nq, hwx⟩ := hcut
          have HN := Lib.hid (HR.out.on (show Below wr.heap.size wr wc by rw [hwx]; exact below_dn (Below.refl _ _) nq))
          clear hwx
          go_wp2_with fail
          refine ⟨⟨k + 1, by omega, by go_num, HLE2, HN⟩, ?_⟩
          simp [intOf] <;> omega
      · obtain rfl : k = n := by omega
        have hle : ∀ j, (L.getD j []).length ≤ 100 := fun j => by
          by_cases h : j < k
          · exact HLE.out j h
          · rw [getD_out (by rw [← HA.out.1]; omega)]; exact Nat.zero_le _
        obtain ⟨x, hx⟩ : ∃ x, x = txt (wk L) := ⟨_, rfl⟩
        have CW1 := Lib.hid (show Calls Tryd.prog 16 #[.slice B k cb] wr fun e w' => e = .returned (.string x) ∧ Below wr.heap.size wr w' from by rw [hx]; exact kwrite_any HR.out.b hn hle (HT.out.below HR.out.below))
        have CW2 := Lib.hid (fun (w5 : World) (hb : Below wr.heap.size wr w5) => show Calls Tryd.prog 17 #[.slice A k c] w5 fun e w' => e = .returned (.string x) ∧ Below w5.heap.size w5 w' from by rw [hx]; exact krwrite_any (HR.out.on hb).a hn hle)
        have hq : (x.toList == x.toList) = true := by simp
        clear hle hx
        go_wp2_with fail
        refine CW1.out.mono ?_
        rintro e w5 ⟨rfl, hb5⟩
        have HB5 := Lib.hid hb5
        clear hb5
        go_wp2_with fail
        refine (CW2.out _ HB5.out).mono ?_
        rintro e w6 ⟨rfl, hb6⟩
        have HR6 := Lib.hid (HR.out.on (below_tr HB5.out hb6))
        clear hb6 hq
        go_wp2_with fail
        go_loopw [5] (fun i wr => ∃ j : Nat, j ≤ k ∧ i = .int .i64 j ∧ Hid (Two w wr A B k L)) (fun i _ => k - (intOf i).toNat)
        case atStart => exact ⟨0, Nat.zero_le _, rfl, HR6⟩
        case round =>
          obtain ⟨j, hj, rfl, HRJ⟩ := hrel
          by_cases hlt2 : j < k
          · obtain ⟨b, off, rfl, _, hcs⟩ := HRJ.out.b.cell hlt2
            obtain ⟨b2, off2, rfl, _, hcs2⟩ := HRJ.out.a.cell hlt2
            obtain ⟨y, hy⟩ : ∃ y, y = txt (L.getD j []) := ⟨_, rfl⟩
            have c1 := hcs j hlt2
            have c2 := hcs2 j hlt2
            rw [← hy] at c1 c2
            have hq : (y.toList == y.toList) = true := by simp
            clear hcs hcs2 hy
            go_upto_region 16 with fail
            go_cut [55] from 41 to 55 (fun v wx => v = .bool false ∧ ∃ nq, wx = wr.drewN nq)
            case first =>
              go_quiet (fail)
              go_wp2_with fail
              go_meet
              exact ⟨rfl, _, rfl⟩
            case rest =>
              obtain ⟨rfl, nq, hwx⟩ := hcut
              have HN := Lib.hid (HRJ.out.on (show Below wr.heap.size wr wc by rw [hwx]; exact below_dn (Below.refl _ _) nq))
              clear hwx
              go_wp2_with fail
              refine ⟨⟨j + 1, by omega, by go_num, HN⟩, ?_⟩
              simp [intOf] <;> omega
          · obtain rfl : j = k := by omega
            go_wp2_with (go_at_call 7; refine (lives_any (HT.out.below HRJ.out.below)).mono ?_; rintro e w' ⟨rfl, hb⟩)
            go_ret
            exact ⟨rfl, below_tr HRJ.out.below hb⟩
theorem lawk_any {L : List Bs} {A : Option Addr} {n c : Nat} {w : World} (hA : Txs w A n L) (hc : n ≤ c) (hcm : c ≤ maxLen) (hnil : A = none → c = 0) (hT : Tab w) :
    Calls Tryd.prog 4 #[.slice A n c] w fun e w' => e = .returned (.bool true) ∧ Below w.heap.size w w' := by
  by_cases h : 100 < n
  · exact lawk_long h hT
  · exact lawk_short hA (by omega) hc hcm hnil hT
end Ty
end Go.Proofs.YtpdaelcoiilkkaaDoor
