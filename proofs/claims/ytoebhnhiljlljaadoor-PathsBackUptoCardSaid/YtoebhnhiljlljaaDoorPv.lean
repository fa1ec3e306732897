/- A path, and a step, that came in: they lie in memory, and are no more than what was read of them. -/
import Derived.Test.YtoebhnhiljlljaaDoorRows
import Derived.Test.YtoebhnhiljlljaaDoorPe
import Derived.Deep.Strs
import Derived.ChangeArms
import Derived.DataReads
import Derived.Lib.SmallJoins
namespace Go.Proofs.YtoebhnhiljlljaaDoor
open Go.RowKit Go.ChangeShapes Go.WideShapes
namespace Pa
set_option maxRecDepth 100000

theorem list_of {α : Type} [Inhabited α] {P : Nat → α → Prop} {n : Nat} (h : ∀ i, i < n → ∃ x, P i x) : ∃ l : List α, l.length = n ∧ ∀ (i : Nat) (x : α), l[i]? = some x → P i x := by
  induction n with
  | zero => exact ⟨[], rfl, fun i x h => by simp at h⟩
  | succ n ih =>
    obtain ⟨l, hl, hp⟩ := ih fun i hi => h i (by omega)
    obtain ⟨y, hy⟩ := h n (by omega)
    refine ⟨l ++ [y], by simp [hl], fun i x hx => ?_⟩
    rcases Nat.lt_or_ge i n with hi | hi
    · rw [List.getElem?_append_left (by omega)] at hx
      exact hp i x hx
    · have hi2 := (List.getElem?_eq_some_iff.1 hx).1
      rw [List.length_append] at hi2
      simp at hi2
      obtain rfl : i = n := by omega
      rw [List.getElem?_append_right (by omega), hl, Nat.sub_self] at hx
      obtain rfl : y = x := by simpa using hx
      exact hy
theorem pW_bulk {H : Type} : ∀ {l : List St} {es : List (DataW H)}, l.length = es.length → (∀ (i : Nat) (x : St) (d : DataW H), l[i]? = some x → es[i]? = some d → sw x ≤ Rows.uptoBulk d) → pW l ≤ Rows.uptoBulkAll es
  | [], [], _, _ => by rw [pW]; exact Nat.zero_le _
  | [], _ :: _, h, _ => by simp at h
  | _ :: _, [], h, _ => by simp at h
  | x :: l, d :: es, h, hp => by
    have h0 := hp 0 x d rfl rfl
    have ih := pW_bulk (l := l) (es := es) (by simpa using h) fun i y e hy he => hp (i + 1) y e (by simpa using hy) (by simpa using he)
    rw [pW]
    simp only [Rows.uptoBulkAll]
    omega
theorem as_txt (s : ByteArray) : s = txt s.data.toList := by simp [txt]
instance : Inhabited St := ⟨⟨0, [], 0, []⟩⟩
section
variable {H : Type} {enc : TypeId × Value → H} {W : World} {base : Nat} {spare : Nat → Bool} {held : Bool}
theorem step_of {fuel : Nat} {cs : List Value} {x : DataW H × List MemPlace} (h : DataW.trod enc Tryd.prog W base spare held fuel 32 cs = some x) :
    ∃ s : St, cs = stC s ∧ s.Ok ∧ sw s ≤ Rows.uptoBulk x.1 := by
  obtain ⟨xs, n, rfl, rfl, hl, hlen, hf⟩ := DataW.trod_struct Tryd.underlying32 h
  have e32 : Tryd.prog.cellsOf 32 = 4 := by kernel_rfl
  have e30 : Tryd.prog.cellsOf 30 = 1 := by kernel_rfl
  have e9 : Tryd.prog.cellsOf 9 = 1 := by kernel_rfl
  have e3 : Tryd.prog.cellsOf 3 = 1 := by kernel_rfl
  rw [e32] at hl
  match cs, hl, xs, hlen with
  | [a, b, c, d], _, [y0, y1, y2, y3], _ =>
    have h0 : DataW.trod enc Tryd.prog W base spare held n 30 (([a, b, c, d].drop 0).take (Tryd.prog.cellsOf 30)) = some y0 := hf 0 _ rfl
    have h1 : DataW.trod enc Tryd.prog W base spare held n 9 (([a, b, c, d].drop 1).take (Tryd.prog.cellsOf 9)) = some y1 := hf 1 _ rfl
    have h2 : DataW.trod enc Tryd.prog W base spare held n 9 (([a, b, c, d].drop 2).take (Tryd.prog.cellsOf 9)) = some y2 := hf 2 _ rfl
    have h3 : DataW.trod enc Tryd.prog W base spare held n 3 (([a, b, c, d].drop 3).take (Tryd.prog.cellsOf 3)) = some y3 := hf 3 _ rfl
    rw [e30] at h0
    rw [e9] at h1 h2
    rw [e3] at h3
    have h0 : DataW.trod enc Tryd.prog W base spare held n 30 [a] = some y0 := h0
    have h1 : DataW.trod enc Tryd.prog W base spare held n 9 [b] = some y1 := h1
    have h2 : DataW.trod enc Tryd.prog W base spare held n 9 [c] = some y2 := h2
    have h3 : DataW.trod enc Tryd.prog W base spare held n 3 [d] = some y3 := h3
    obtain ⟨k, hk, rfl, hkw⟩ := DataW.trod_int Tryd.underlying30 h0
    obtain ⟨s, hs, rfl, _⟩ := DataW.trod_string Tryd.underlying9 h1
    obtain ⟨u, hu, rfl, _⟩ := DataW.trod_string Tryd.underlying9 h2
    obtain ⟨p, hp, rfl, hpw⟩ := DataW.trod_int Tryd.underlying3 h3
    obtain rfl : a = .int .u8 k := by simpa using hk
    obtain rfl : b = .string s := by simpa using hs
    obtain rfl : c = .string u := by simpa using hu
    obtain rfl : d = .int .i64 p := by simpa using hp
    have hkr : 0 ≤ k ∧ k ≤ 255 := by simpa [Lit.wf, IntKind.min, IntKind.max, IntKind.signed, IntKind.bits] using hkw
    have hpr : -9223372036854775808 ≤ p ∧ p ≤ 9223372036854775807 := by simpa [Lit.wf, IntKind.min, IntKind.max, IntKind.signed, IntKind.bits] using hpw
    obtain ⟨k, rfl⟩ := Int.eq_ofNat_of_zero_le hkr.1
    refine ⟨⟨k, s.data.toList, p, u.data.toList⟩, ?_, ⟨by show k < 256; omega, hpr⟩, ?_⟩
    · show _ = [_, _, _, _]
      rw [← as_txt, ← as_txt]
    · simp only [sw, Rows.uptoBulk, Rows.uptoBulkAll, List.map_cons, List.map_nil]
      omega
theorem path_of {fuel : Nat} {v : Value} {x : DataW H × List MemPlace} (h : DataW.trod enc Tryd.prog W base spare held fuel 22 [v] = some x) :
    ∃ A n c L, v = .slice A n c ∧ Sm W A n c L ∧ pW L ≤ Rows.uptoBulk x.1 := by
  have e32 : Tryd.prog.cellsOf 32 = 4 := by kernel_rfl
  rcases DataW.trod_slice Tryd.underlying22 h with ⟨hc, rfl⟩ | ⟨ad, len, cap, elems, rest, n', rfl, hc, rfl, hba, hlc, hcm, hel, hes, _, _⟩
  · obtain rfl : v = .slice none 0 0 := by simpa using hc
    exact ⟨none, 0, 0, [], rfl, ⟨rfl, ⟨Nat.le_refl _, Nat.zero_le _⟩, fun _ => rfl, fun h => absurd h (by simp), fun s hs => by cases hs⟩, by rw [pW]; exact Nat.zero_le _⟩
  · obtain rfl : v = .slice (some ad) len cap := by simpa using hc
    rw [e32] at hes
    have each : ∀ i, i < len → ∃ s : St, (∀ j, j < 4 → W.cell? ((ad.add (i * 4)).add j) = (stC s)[j]?) ∧ s.Ok ∧ ∃ e, elems[i]? = some e ∧ sw s ≤ Rows.uptoBulk e.1 := fun i hi => by
      have h4 := hes i hi
      have hi2 : i < elems.length := by omega
      rw [List.getElem?_eq_getElem hi2] at h4
      obtain ⟨cs4, hc4, ht4⟩ := Option.bind_eq_some_iff.1 h4
      obtain ⟨s, rfl, hok, hsw⟩ := step_of ht4
      exact ⟨s, (World.cells?_some hc4).2.2, hok, _, List.getElem?_eq_getElem hi2, hsw⟩
    obtain ⟨L, hl, hq⟩ := list_of each
    refine ⟨_, _, _, L, rfl, ⟨hl.symm, ⟨hlc, hcm⟩, (fun h => by cases h), fun h0 => ?_, fun s hs => ?_⟩, ?_⟩
    · obtain ⟨bb, off, spot⟩ := ad
      obtain ⟨q0, hq0⟩ : ∃ q, L[0]? = some q := ⟨L[0]'h0, List.getElem?_eq_getElem h0⟩
      have c0 := (hq 0 q0 hq0).1 0 (by decide)
      have hspot : spot = none := by simpa [Addr.add] using World.cell?_spot c0
      subst hspot
      refine ⟨bb, off, rfl, World.block_lt_of_cell? W _ c0, fun i s hs => ?_⟩
      have cj := fun j hj => (hq i s hs).1 j hj
      have f := fun j (hj : j < 4) => by have := cj j hj; rw [addAt, addAt] at this; exact this
      exact ⟨f 0 (by decide), f 1 (by decide), f 2 (by decide), f 3 (by decide)⟩
    · obtain ⟨i, hi, e⟩ := List.getElem_of_mem hs
      exact (hq i s (by rw [List.getElem?_eq_getElem hi, e])).2.1
    · have hb : pW L ≤ Rows.uptoBulkAll (elems.map (·.1)) := pW_bulk (by rw [hl, List.length_map, hel]) fun i x dd hx hd => by
        obtain ⟨e, he, hwe⟩ := (hq i x hx).2.2
        rw [List.getElem?_map, he] at hd
        have : e.1 = dd := by simpa using hd
        rw [← this]; exact hwe
      simp only [Rows.uptoBulk]
      omega
end
theorem argp_of {H : Type} {enc : TypeId × Value → H} {W : World} {base : Nat} {spare : Nat → Bool} {held : Bool} {a : Option Addr} {n c : Nat} {d : DataW H} {p : List MemPlace} (h : DataW.Trod enc Tryd.prog W base spare held 22 (.slice a n c) d p) : ∃ L : List St, Sm W a n c L ∧ pW L ≤ Rows.uptoBulk d := by
  obtain ⟨fuel, hf⟩ := h
  obtain ⟨A, m, k, L, e, hs, hw⟩ := path_of (v := .slice a n c) (by simpa [Value.cells] using hf)
  injection e with e1 e2 e3
  subst e1 e2 e3
  exact ⟨L, hs, hw⟩
theorem args_of {H : Type} {enc : TypeId × Value → H} {W : World} {base b0 : Nat} {spare : Nat → Bool} {held : Bool} {r : Reach} {v : Value} {d : DataW H} {p : List MemPlace} (hv : Value.okWide Tryd.prog W r b0 32 v) (h : DataW.Trod enc Tryd.prog W base spare held 32 v d p) : ∃ s : St, v = stV s ∧ s.Ok ∧ sw s ≤ Rows.uptoBulk d := by
  obtain ⟨cs, rfl, hsz⟩ := okWide_struct Tryd.underlying32 hv
  obtain ⟨fuel, hf⟩ := h
  obtain ⟨s, hcs, hok, hsw⟩ := step_of hf
  have hcs : cs.toList = stC s := by simpa [Value.cells] using hcs
  refine ⟨s, ?_, hok, hsw⟩
  unfold stV
  rw [show cs = (stC s).toArray by rw [← hcs]]
end Pa
end Go.Proofs.YtoebhnhiljlljaaDoor
