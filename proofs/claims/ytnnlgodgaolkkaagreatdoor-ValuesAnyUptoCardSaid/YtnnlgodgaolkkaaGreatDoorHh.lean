/- A value that came in: it lies in memory, and is no more than what was read of it. -/
import Derived.Test.YtnnlgodgaolkkaaGreatDoorRows
import Derived.Test.YtnnlgodgaolkkaaGreatDoorHd
import Derived.Deep.Strs
import Derived.ChangeArms
import Derived.DataReads
import Derived.Lib.SmallJoins
namespace Go.Proofs.YtnnlgodgaolkkaaGreatDoor
open Go.RowKit Go.ChangeShapes Go.WideShapes
namespace Va
set_option maxRecDepth 100000

theorem list_of {α : Type} [Inhabited α] {P : Nat → α → Prop} {n : Nat} (h : ∀ i, i < n → ∃ x, P i x) : ∃ l : List α, l.length = n ∧ ∀ (i : Nat) (x : α), l[i]? = some x → P i x := by
  induction n with
  | zero => exact ⟨[], rfl, fun i x h => by simp at h⟩
  | succ n ih =>
    obtain ⟨l, hl, hp⟩ := ih fun i hi => h i (by omega)
    obtain ⟨y, hy⟩ := h n (by omega)
    refine ⟨l ++ [y], by simp [hl], fun i x hx => ?_⟩
    rcases Nat.lt_or_ge i n with hi | hi
    · rw [List.getElem?_append_left (by omega)] at hx
      exact hp i x hx
    · have hi2 := (List.getElem?_eq_some_iff.1 hx).1
      rw [List.length_append] at hi2
      simp at hi2
      obtain rfl : i = n := by omega
      rw [List.getElem?_append_right (by omega), hl, Nat.sub_self] at hx
      obtain rfl : y = x := by simpa using hx
      exact hy
theorem wt_bulk {H : Type} : ∀ {l : List V} {es : List (DataW H)}, l.length = es.length → (∀ (i : Nat) (x : V) (d : DataW H), l[i]? = some x → es[i]? = some d → wt x ≤ Rows.uptoBulk d) → wtL l ≤ Rows.uptoBulkAll es
  | [], [], _, _ => by rw [wtL]; exact Nat.zero_le _
  | [], _ :: _, h, _ => by simp at h
  | _ :: _, [], h, _ => by simp at h
  | x :: l, d :: es, h, hp => by
    have h0 := hp 0 x d rfl rfl
    have ih := wt_bulk (l := l) (es := es) (by simpa using h) fun i y e hy he => hp (i + 1) y e (by simpa using hy) (by simpa using he)
    rw [wtL]
    simp only [Rows.uptoBulkAll]
    omega
theorem kw_bulk {H : Type} : ∀ {n : Nat} (f : Nat → List UInt8), kw ((List.range n).map f) + n ≤ Rows.uptoBulkAll ((List.range n).map fun i => DataW.lit (H := H) (.string (f i)))
  | 0, _ => by simp [kw]
  | n + 1, f => by
    have ih := kw_bulk (H := H) (n := n) (fun i => f (i + 1))
    rw [List.range_succ_eq_map, List.map_cons, List.map_cons, List.map_map, List.map_map, kw]
    simp only [Rows.uptoBulkAll, Rows.uptoBulk]
    have e1 : (f ∘ Nat.succ) = fun i => f (i + 1) := rfl
    have e2 : ((fun i => DataW.lit (H := H) (.string (f i))) ∘ Nat.succ) = fun i => DataW.lit (H := H) (.string (f (i + 1))) := rfl
    rw [e1, e2]; omega
theorem as_txt (s : ByteArray) : s = txt s.data.toList := by simp [txt]
section
variable {H : Type} {enc : TypeId × Value → H} {W : World} {base : Nat} {spare : Nat → Bool} {held : Bool}
theorem texts_of {fuel : Nat} {v : Value} {y : DataW H × List MemPlace} (h : DataW.trod enc Tryz.prog W base spare held fuel 24 [v] = some y) :
    ∃ (B : Option Addr) (n d : Nat) (ks : List Bs), v = .slice B n d ∧ n = ks.length ∧ n ≤ d ∧ d ≤ maxLen ∧ (B = none → d = 0) ∧ Tx W B ks ∧ kw ks + n + 1 ≤ Rows.uptoBulk y.1 := by
  rcases Go.Deep.open_strs Tryz.underlying24 Tryz.underlying9 (by kernel_rfl) h with ⟨hcs, rfl⟩ | ⟨x, l, c', m, Sx, hcs, _, hl, hm, hmm, rfl, hcell⟩
  · obtain rfl : v = .slice none 0 0 := by simpa using hcs
    exact ⟨none, 0, 0, [], rfl, rfl, Nat.le_refl _, Nat.zero_le _, fun _ => rfl, fun h => absurd h (by simp), by simp [kw, Rows.uptoBulk]⟩
  · obtain rfl : v = .slice (some x) l c' := by simpa using hcs
    have hlm : l ≤ m := by rw [hmm]; split <;> omega
    refine ⟨some x, l, c', (List.range l).map fun i => (Sx i).data.toList, rfl, by simp, hl, hm, (fun h => by cases h), (fun h0 => ?_), ?_⟩
    · have hl0 : 0 < l := by simpa using h0
      obtain ⟨b, off, spot⟩ := x
      have hspot : spot = none := by simpa [Addr.add] using World.cell?_spot (hcell 0 (by omega)).1
      subst hspot
      refine ⟨b, off, rfl, World.block_lt_of_cell? W _ (hcell 0 (by omega)).1, fun i t hi => ?_⟩
      have hil : i < l := by have := (List.getElem?_eq_some_iff.1 hi).1; simpa using this
      have hk2 := (hcell i (by omega)).1
      rw [addAt] at hk2
      rw [hk2]
      rw [List.getElem?_map, List.getElem?_range hil] at hi
      have hi : (Sx i).data.toList = t := by simpa using hi
      rw [← hi, ← as_txt]
    · have := kw_bulk (H := H) (n := l) (fun i => (Sx i).data.toList)
      simp only [Rows.uptoBulk]
      omega
instance : Inhabited V := ⟨.mk 0 [] [] []⟩
set_option maxRecDepth 100000 in
theorem value_of : ∀ (fuel : Nat) (cs : List Value) (x : DataW H × List MemPlace), DataW.trod enc Tryz.prog W base spare held fuel 26 cs = some x →
    ∃ (a b c d : Value) (v : V), cs = [a, b, c, d] ∧ Vm W (.agg #[a, b, c, d]) v ∧ wt v ≤ Rows.uptoBulk x.1 := by
  intro fuel
  induction fuel using Nat.strongRecOn with
  | _ fuel IH =>
    intro cs x h
    obtain ⟨xs, n, rfl, rfl, hl, hlen, hf⟩ := DataW.trod_struct Tryz.underlying26 h
    have e26 : Tryz.prog.cellsOf 26 = 4 := by kernel_rfl
    have e22 : Tryz.prog.cellsOf 22 = 1 := by kernel_rfl
    have e9 : Tryz.prog.cellsOf 9 = 1 := by kernel_rfl
    have e23 : Tryz.prog.cellsOf 23 = 1 := by kernel_rfl
    have e24 : Tryz.prog.cellsOf 24 = 1 := by kernel_rfl
    rw [e26] at hl
    match cs, hl, xs, hlen with
    | [a, b, c, d], _, [y0, y1, y2, y3], _ =>
      have h0 : DataW.trod enc Tryz.prog W base spare held n 22 (([a, b, c, d].drop 0).take (Tryz.prog.cellsOf 22)) = some y0 := hf 0 _ rfl
      have h1 : DataW.trod enc Tryz.prog W base spare held n 9 (([a, b, c, d].drop 1).take (Tryz.prog.cellsOf 9)) = some y1 := hf 1 _ rfl
      have h2 : DataW.trod enc Tryz.prog W base spare held n 23 (([a, b, c, d].drop 2).take (Tryz.prog.cellsOf 23)) = some y2 := hf 2 _ rfl
      have h3 : DataW.trod enc Tryz.prog W base spare held n 24 (([a, b, c, d].drop 3).take (Tryz.prog.cellsOf 24)) = some y3 := hf 3 _ rfl
      rw [e22] at h0
      rw [e9] at h1
      rw [e23] at h2
      rw [e24] at h3
      have h0 : DataW.trod enc Tryz.prog W base spare held n 22 [a] = some y0 := h0
      have h1 : DataW.trod enc Tryz.prog W base spare held n 9 [b] = some y1 := h1
      have h2 : DataW.trod enc Tryz.prog W base spare held n 23 [c] = some y2 := h2
      have h3 : DataW.trod enc Tryz.prog W base spare held n 24 [d] = some y3 := h3
      obtain ⟨k, hk, rfl, hkw⟩ := DataW.trod_int Tryz.underlying22 h0
      obtain ⟨s, hs, rfl, _⟩ := DataW.trod_string Tryz.underlying9 h1
      obtain ⟨B, m, dd, ks, rfl, rfl, hd, hd2, hB, hK, hkb⟩ := texts_of h3
      obtain rfl : a = .int .u8 k := by simpa using hk
      obtain rfl : b = .string s := by simpa using hs
      have hkr : 0 ≤ k ∧ k ≤ 255 := by simpa [Lit.wf, IntKind.min, IntKind.max, IntKind.signed, IntKind.bits] using hkw
      obtain ⟨k, rfl⟩ := Int.eq_ofNat_of_zero_le hkr.1
      have hk5 : k < 256 := by omega
      have hs2 := as_txt s
      rcases DataW.trod_slice Tryz.underlying23 h2 with ⟨hc, rfl⟩ | ⟨ad, len, cap, elems, rest, n', rfl, hc, rfl, hba, hlc, hcm, hel, hes, _, _⟩
      · obtain rfl : c = .slice none 0 0 := by simpa using hc
        refine ⟨_, _, _, _, .mk k s.data.toList [] ks, rfl, ?_, ?_⟩
        · have := Vk.mk (w := W) (ok := fun _ => True) k s.data.toList [] ks none B 0 dd (fun _ _ => .int .u8 0) hk5 (Nat.le_refl _) (Nat.zero_le _) (fun _ => rfl) hd hd2 hB hK (fun h => absurd h (by simp)) (fun h => absurd h (by simp)) (fun _ _ _ _ => trivial) (fun i x h => by simp at h)
          rw [← hs2] at this; exact this
        · simp only [wt, wtL, Rows.uptoBulk, Rows.uptoBulkAll, List.map_cons, List.map_nil]
          omega
      · obtain rfl : c = .slice (some ad) len cap := by simpa using hc
        rw [e26] at hes
        have each : ∀ i, i < len → ∃ (q : V × (Value × Value × Value × Value)), (∀ j, j < 4 → W.cell? ((ad.add (i * 4)).add j) = [q.2.1, q.2.2.1, q.2.2.2.1, q.2.2.2.2][j]?) ∧ Vm W (.agg #[q.2.1, q.2.2.1, q.2.2.2.1, q.2.2.2.2]) q.1 ∧ ∃ e, elems[i]? = some e ∧ wt q.1 ≤ Rows.uptoBulk e.1 := fun i hi => by
          have h4 := hes i hi
          have hi2 : i < elems.length := by omega
          rw [List.getElem?_eq_getElem hi2] at h4
          obtain ⟨cs4, hc4, ht4⟩ := Option.bind_eq_some_iff.1 h4
          obtain ⟨p, q, r, s, v, rfl, hvm, hwt⟩ := IH n' (by omega) cs4 _ ht4
          exact ⟨⟨v, p, q, r, s⟩, (World.cells?_some hc4).2.2, hvm, _, List.getElem?_eq_getElem hi2, hwt⟩
        have : Inhabited (V × (Value × Value × Value × Value)) := ⟨⟨default, .int .u8 0, .int .u8 0, .int .u8 0, .int .u8 0⟩⟩
        obtain ⟨qs, hql, hq⟩ := list_of each
        obtain ⟨L, hL⟩ : ∃ L, L = qs.map (·.1) := ⟨_, rfl⟩
        have hLl : L.length = len := by rw [hL, List.length_map, hql]
        have hat : ∀ (i : Nat) (x : V), L[i]? = some x → ∃ q, qs[i]? = some q ∧ q.1 = x := fun i x hx => by
          rw [hL, List.getElem?_map] at hx
          exact Option.map_eq_some_iff.1 hx
        refine ⟨_, _, _, _, .mk k s.data.toList L ks, rfl, ?_, ?_⟩
        · have := Vk.mk (w := W) (ok := fun _ => True) k s.data.toList L ks (some ad) B cap dd (fun i j => match qs[i]? with | some q => [q.2.1, q.2.2.1, q.2.2.2.1, q.2.2.2.2].getD j (.int .u8 0) | none => .int .u8 0) hk5 (by rw [hLl]; exact hlc) hcm (fun h => by cases h) hd hd2 hB hK (fun h0 => by
            rw [hLl] at h0
            obtain ⟨bb, off, spot⟩ := ad
            obtain ⟨q0, hq0⟩ : ∃ q, qs[0]? = some q := ⟨qs[0]'(by omega), List.getElem?_eq_getElem (by omega)⟩
            have c0 := (hq 0 q0 hq0).1 0 (by decide)
            have hspot : spot = none := by simpa [Addr.add] using World.cell?_spot c0
            subst hspot
            refine ⟨bb, off, rfl, World.block_lt_of_cell? W _ c0, fun i hi j hj => ?_⟩
            obtain ⟨q, hqi⟩ : ∃ q, qs[i]? = some q := ⟨qs[i]'(by omega), List.getElem?_eq_getElem (by omega)⟩
            have cj := (hq i q hqi).1 j hj
            rw [addAt, addAt] at cj
            rw [cj]
            simp only [hqi]
            rcases (show j = 0 ∨ j = 1 ∨ j = 2 ∨ j = 3 by omega) with rfl | rfl | rfl | rfl <;> rfl) (fun _ _ _ _ => trivial) (fun _ _ _ _ => trivial) (fun i x hx => by
            obtain ⟨q, hqi, rfl⟩ := hat i x hx
            simp only [hqi]
            exact (hq i q hqi).2.1)
          rw [← hs2, hLl] at this; exact this
        · have hb : wtL L ≤ Rows.uptoBulkAll (elems.map (·.1)) := wt_bulk (by rw [hLl, List.length_map, hel]) fun i x dd hx hd => by
            obtain ⟨q, hqi, rfl⟩ := hat i x hx
            obtain ⟨e, he, hwe⟩ := (hq i q hqi).2.2
            rw [List.getElem?_map, he] at hd
            have : e.1 = dd := by simpa using hd
            rw [← this]; exact hwe
          simp only [wt, Rows.uptoBulk, Rows.uptoBulkAll, List.map_cons, List.map_nil]
          omega
end
end Va
end Go.Proofs.YtnnlgodgaolkkaaGreatDoor
/- A value as an argument. -/
namespace Go.Proofs.YtnnlgodgaolkkaaGreatDoor
open Go.RowKit Go.ChangeShapes Go.WideShapes
namespace Va
set_option maxRecDepth 100000

theorem argv_of {H : Type} {enc : TypeId × Value → H} {W : World} {base b0 : Nat} {spare : Nat → Bool} {held : Bool} {r : Reach} {v : Value} {d : DataW H} {p : List MemPlace} (hv : Value.okWide Tryz.prog W r b0 26 v) (h : DataW.Trod enc Tryz.prog W base spare held 26 v d p) : ∃ x : V, Vm W v x ∧ wt x ≤ Rows.uptoBulk d := by
  obtain ⟨cs, rfl, hsz⟩ := okWide_struct Tryz.underlying26 hv
  obtain ⟨fuel, hf⟩ := h
  obtain ⟨a, b, c, e, x, hcs, hvm, hwt⟩ := value_of fuel _ _ hf
  have hcs : cs.toList = [a, b, c, e] := by simpa [Value.cells] using hcs
  obtain rfl : cs = #[a, b, c, e] := by cases cs; simp_all
  exact ⟨x, hvm, hwt⟩

end Va
end Go.Proofs.YtnnlgodgaolkkaaGreatDoor
