/- The reference's value of a node. -/
import Derived.Test.YtggeiajbcehkjaaGreatDoorGbi
import Derived.Test.YtggeiajbcehkjaaGreatDoorGbq
namespace Go.Proofs.YtggeiajbcehkjaaGreatDoor
open Go.RowKit
open Va (Bs V v0 Tx Vm Vk vO OV OT own_on own_shape own_cells below_tr below_new heap_alloc_new get_lt)
namespace Tt
set_option maxRecDepth 100000

theorem store4 {w : World} {b : Nat} {x y z u : Value} (p q r s : Value) (h : w.heap[b]? = some (vO x y z u)) : ((((w.setCell ⟨b, 0, none⟩ p).setCell ⟨b, 1, none⟩ q).setCell ⟨b, 2, none⟩ r).setCell ⟨b, 3, none⟩ s).heap[b]? = some (vO p q r s) := by
  have h1 : (w.setCell ⟨b, 0, none⟩ p).heap[b]? = some (vO p y z u) := Go.heap_setCell_same w b 0 _ _ p h
  have h2 : ((w.setCell ⟨b, 0, none⟩ p).setCell ⟨b, 1, none⟩ q).heap[b]? = some (vO p q z u) := Go.heap_setCell_same _ b 1 _ _ q h1
  have h3 : (((w.setCell ⟨b, 0, none⟩ p).setCell ⟨b, 1, none⟩ q).setCell ⟨b, 2, none⟩ r).heap[b]? = some (vO p q r u) := Go.heap_setCell_same _ b 2 _ _ r h2
  exact Go.heap_setCell_same _ b 3 _ _ s h3
/-- Where it begins. -/
theorem TS.start {w W3 X : World} {h P k : Nat} {tv kv a b c d : Value} {r : Int} {nc : List Value} {T : ByteArray} {K : List Bs} (hb : Below w.heap.size w W3) (hh : h = w.heap.size) (hs : W3.heap.size = h + 3)
    (b1 : W3.heap[h]? = some (tO tv (.int .i64 r))) (b2 : W3.heap[h + 1]? = some (vO (.int .u8 0) (.string ⟨#[]⟩) (.slice none 0 0) (.slice none 0 0))) (b3 : W3.heap[h + 2]? = some (nO nc))
    (hB : Below W3.heap.size W3 X) (hP : X.heap[P]? = some (vO a b c d)) (hp : h + 3 ≤ P) (hK : OT X (h + 3) kv K) (hk : kv.ownBlock ≠ some P) :
    TS w ((((X.setCell ⟨P, 0, none⟩ (.int .u8 k)).setCell ⟨P, 1, none⟩ (.string T)).setCell ⟨P, 2, none⟩ (.slice none 0 0)).setCell ⟨P, 3, none⟩ kv) h P tv r nc k T (.slice none 0 0) kv (fun _ => False) [] K := by
  have oth : ∀ g, g ≠ P → ((((X.setCell ⟨P, 0, none⟩ (.int .u8 k)).setCell ⟨P, 1, none⟩ (.string T)).setCell ⟨P, 2, none⟩ (.slice none 0 0)).setCell ⟨P, 3, none⟩ kv).heap[g]? = X.heap[g]? := fun g hg => by
    rw [Go.RowKit.Below.heap_setCell _ _ _ _ hg, Go.RowKit.Below.heap_setCell _ _ _ _ hg, Go.RowKit.Below.heap_setCell _ _ _ _ hg, Go.RowKit.Below.heap_setCell _ _ _ _ hg]
  have old : ∀ g, g < h + 3 → X.heap[g]? = W3.heap[g]? := fun g hg => hB.block g (by omega)
  have hle : w.heap.size ≤ P := by omega
  refine ⟨((((below_tr hb hB).setCell hle _).setCell hle _).setCell hle _).setCell hle _, hh, ?_, ?_, ?_, store4 _ _ _ _ hP, hp, OV.nil _ _ _, own_on hK fun g hg => oth g (fun e => hk (e ▸ hg)), fun g h => h.elim, (fun g h => by cases h), hk⟩
  · rw [oth _ (by omega), old _ (by omega)]; exact b1
  · rw [oth _ (by omega), old _ (by omega)]; exact b2
  · rw [oth _ (by omega), old _ (by omega)]; exact b3
end Tt
end Go.Proofs.YtggeiajbcehkjaaGreatDoor
/- The reference's value of a node of a tree that may be; how many nodes are counted. -/
namespace Go.Proofs.YtggeiajbcehkjaaGreatDoor
open Go.RowKit
open Va (Bs V v0 Tx Vm Vk vO below_tr below_new heap_alloc_new get_lt)
namespace Tt
set_option maxRecDepth 100000

/-- No row is greater than what is gone through. -/
def Sm (t : Tr) : Prop := t.nodes.length ≤ 1000000 ∧ ∀ x ∈ t.nodes, x.keys.length ≤ 1000000 ∧ x.subs.length ≤ 1000000
theorem flat_take (g : Nat → List Nat) (l : List Nat) (j : Nat) : ((l.take j).flatMap g).length ≤ (l.flatMap g).length := by
  have : (l.take j ++ l.drop j).flatMap g = (l.take j).flatMap g ++ (l.drop j).flatMap g := List.flatMap_append
  rw [List.take_append_drop] at this
  rw [this, List.length_append]; omega
end Tt
end Go.Proofs.YtggeiajbcehkjaaGreatDoor
/- The law's own count of a tree's nodes. -/
namespace Go.Proofs.YtggeiajbcehkjaaGreatDoor
open Go.RowKit
open Va (Bs V v0 Tx Vm Vk vO below_tr below_new heap_alloc_new get_lt)
namespace Tt
set_option maxRecDepth 100000

set_option maxHeartbeats 16000000 in
theorem size_step {t : Tr} {i dd : Nat} {x : Nd} {F : Nat → Nat} (hx : t.nodes[i]? = some x) (hd : 0 < dd) (hd3 : dd ≤ 300) (hF0 : F 0 = 1) (hFb : ∀ j, j < x.subs.length → F j < 2000) (hFc : F x.subs.length ≤ 2000) (hs5 : x.subs.length ≤ 1000000) (hn5 : t.nodes.length ≤ 1000000)
    (IH : ∀ (j : Nat) (s : Int), x.subs[j]? = some s → ∃ z : Nat, F (j + 1) = F j + z ∧ z ≤ 2000 ∧ ∀ (w : World) (v : Value), Tm w v t → Calls Tryz.prog 32 #[v, .int .i64 s, .int .i64 ((dd : Int) - 1)] w fun e w' => e = .returned (.int .i64 z) ∧ Below w.heap.size w w')
    (w : World) (v : Value) (hv : Tm w v t) :
    Calls Tryz.prog 32 #[v, .int .i64 (i : Nat), .int .i64 (dd : Nat)] w fun e w' => e = .returned (.int .i64 (F x.subs.length : Nat)) ∧ Below w.heap.size w w' := by
  have HV := Lib.hid hv
  obtain ⟨A, c, rfl, hc1, hc2, hc3, hr, hN⟩ := hv
  have hi := (List.getElem?_eq_some_iff.1 hx).1
  obtain ⟨g, o, rfl, hg, hf⟩ := hN (by omega)
  obtain ⟨K, S, U, a, b, d, hcell, hNr⟩ := hf i x hx
  have n4 := hcell 4 _ rfl
  obtain ⟨n, HN⟩ : ∃ n, Hid (n = t.nodes.length) := ⟨_, Lib.hid rfl⟩
  obtain ⟨ul, HU⟩ : ∃ n, Hid (n = x.subs.length) := ⟨_, Lib.hid rfl⟩
  obtain ⟨r, HR⟩ : ∃ p, Hid (p = t.root) := ⟨_, Lib.hid rfl⟩
  rw [← HU.out] at n4
  rw [← HN.out] at HV hi hc1 hn5 ⊢
  rw [← HR.out] at HV hr ⊢
  rw [← HU.out] at hs5 hFb hFc ⊢
  have HUX := Lib.hid hNr.subs
  have HIH := Lib.hid IH
  have HFB := Lib.hid hFb
  have HFC := Lib.hid hFc
  have HF0 := Lib.hid hF0
  have HN4 := Lib.hid (And.intro hg n4)
  have hi0 : ¬ ((i : Int) < 0) := by omega
  have hin : ¬ ((n : Int) ≤ (i : Int)) := by omega
  have hd0 : ¬ ((dd : Int) = 0) := by omega
  clear hN hf hcell hNr IH hFb hFc hF0 hx n4 hg
  obtain ⟨h, hh⟩ : ∃ h, h = w.heap.size := ⟨_, rfl⟩
  obtain ⟨W1, hW1⟩ : ∃ W, W = w.alloc (tO (.slice (some ⟨g, o, none⟩) n c) (.int .i64 r)) := ⟨_, rfl⟩
  have hb1 : Below w.heap.size w W1 := by rw [hW1]; exact below_new ..
  have x0 : W1.heap[h]? = some (tO (.slice (some ⟨g, o, none⟩) n c) (.int .i64 r)) := by rw [hh, hW1]; exact heap_alloc_new ..
  have HS0 := Lib.hid (And.intro hb1 x0)
  have HW1 := Lib.hid hW1
  clear hW1 hb1 x0
  go_enter Tryz.func32, Tryz.ntmps32
  go_upto_region 1 with fail
  rw [← HW1.out, ← hh]
  have HH := Lib.hid hh
  clear HW1 hh
  have t0 : W1.cell? ⟨h, 0, none⟩ = some (.slice (some ⟨g, o, none⟩) n c) := by have := HS0.out.2; simp [World.cell?, this]
  go_wp2_with fail
  clear t0
  go_loopw [7, 8] (fun a9 b9 wx => ∃ (j z : Nat), j ≤ ul ∧ a9 = .int .i64 z ∧ b9 = .int .i64 j ∧ z ≤ 2000 ∧ Hid (z = F j) ∧ Hid (Below w.heap.size w wx ∧ wx.heap[h]? = some (tO (.slice (some ⟨g, o, none⟩) n c) (.int .i64 r)))) (fun _ b9 _ => ul - (intOf b9).toNat)
  case atStart => exact ⟨0, 1, Nat.zero_le _, rfl, rfl, by omega, Lib.hid HF0.out.symm, HS0⟩
  case round =>
    obtain ⟨j, z, hj, rfl, rfl, hz, HZ, HT⟩ := hrel
    obtain ⟨wo, hwo⟩ : ∃ wo, wo = wr := ⟨_, rfl⟩
    subst hwo
    have t0 : wo.cell? ⟨h, 0, none⟩ = some (.slice (some ⟨g, o, none⟩) n c) := by have := HT.out.2; simp [World.cell?, this]
    have t1 : wo.cell? ⟨h, 1, none⟩ = some (.int .i64 r) := by have := HT.out.2; simp [World.cell?, this]
    have b4 : wo.cell? ⟨g, o + i * 7 + 4, none⟩ = some (.slice U ul d) := by rw [HT.out.1.cell HN4.out.1]; exact HN4.out.2
    by_cases hlt : j < ul
    · obtain ⟨s, hs⟩ := get_lt (l := x.subs) (i := j) (by rw [← HU.out]; exact hlt)
      obtain ⟨y, hy1, hy2, hy3⟩ := HIH.out j s hs
      obtain ⟨gu, ou, rfl, hgu, hfu⟩ := HUX.out (by rw [← HU.out]; omega)
      have HSC := Lib.hid (And.intro hgu (hfu j s hs).1)
      have HFJ := Lib.hid hy1
      have hz2 : (z : Int) < 2000 := by have := HFB.out j hlt; rw [← HZ.out] at this; omega
      have hzy : z + y ≤ 2000 := by
        have h1 := HFC.out; have h2 := HFB.out (j + 1)
        rw [hy1, ← HZ.out] at h2
        by_cases h3 : j + 1 < ul
        · have := h2 h3; omega
        · obtain rfl : ul = j + 1 := by omega
          rw [hy1, ← HZ.out] at h1; exact h1
      have hlt' : (j : Int) < (ul : Int) := by omega
      have CI := Lib.hid (hy3 wo.drew _ (HV.out.on (HT.out.1.drew)))
      have hwr : IntKind.i64.wrap ((dd : Int) - 1) = (dd : Int) - 1 := by simp [IntKind.wrap, IntKind.bits, IntKind.signed]; omega
      have HW2 := Lib.hid (show IntKind.i64.wrap ((z : Int) + (y : Int)) = ((z + y : Nat) : Int) by simp [IntKind.wrap, IntKind.bits, IntKind.signed]; omega)
      clear hs hy1 hy3 hgu hfu
      go_upto_region 7 with fail
      have cs : wo.cell? ⟨gu, ou + j, none⟩ = some (.int .i64 s) := by rw [HT.out.1.cell HSC.out.1]; exact HSC.out.2
      have SX := Lib.hid (fun (X : World) (h1 : Below w.heap.size w X ∧ X.heap[h]? = some (tO (.slice (some ⟨g, o, none⟩) n c) (.int .i64 r))) => show X.cell? ⟨h, 0, none⟩ = some (.slice (some ⟨g, o, none⟩) n c) ∧ X.cell? ⟨h, 1, none⟩ = some (.int .i64 r) ∧ X.cell? ⟨g, o + i * 7 + 4, none⟩ = some (.slice (some ⟨gu, ou, none⟩) ul d) ∧ X.cell? ⟨gu, ou + j, none⟩ = some (.int .i64 s) from
        ⟨by have := h1.2; simp [World.cell?, this], by have := h1.2; simp [World.cell?, this], by rw [h1.1.cell HN4.out.1]; exact HN4.out.2, by rw [h1.1.cell HSC.out.1]; exact HSC.out.2⟩)
      have KEEP := Lib.hid (fun (X Y : World) (h1 : Below w.heap.size w X ∧ X.heap[h]? = some (tO (.slice (some ⟨g, o, none⟩) n c) (.int .i64 r))) (hb : Below X.heap.size X Y) => show Below w.heap.size w Y ∧ Y.heap[h]? = some (tO (.slice (some ⟨g, o, none⟩) n c) (.int .i64 r)) from
        ⟨below_tr h1.1 hb, (hb.block _ (Array.getElem?_eq_some_iff.1 h1.2).1).trans h1.2⟩)
      have HTd := Lib.hid (KEEP.out _ _ HT.out (Below.refl _ _).drew)
      rw [← hwr] at CI
      clear cs t0 t1 b4 hwr
      go_region_held_law (fun X => X.cell? ⟨h, 0, none⟩ = some (.slice (some ⟨g, o, none⟩) n c) ∧ X.cell? ⟨h, 1, none⟩ = some (.int .i64 r) ∧ X.cell? ⟨g, o + i * 7 + 4, none⟩ = some (.slice (some ⟨gu, ou, none⟩) ul d) ∧ X.cell? ⟨gu, ou + j, none⟩ = some (.int .i64 s)) (first | exact SX.out _ HTd.out | exact SX.out _ HN3.out)
        (first
          | (go_simp; go_at_call 32; refine CI.out.mono ?_; rintro e w3 ⟨rfl, hb3⟩; have HN3 := Lib.hid (KEEP.out _ _ HTd.out hb3); clear hb3))
      all_goals
        go_wp2_with fail
        go_roundw
        case rel => exact ⟨j + 1, z + y, by omega, by first | rfl | rw [HW2.out], by go_num, hzy, Lib.hid (by rw [HFJ.out, HZ.out]), HN3⟩
        case measure => simp [intOf]; omega
    · obtain rfl : j = ul := by omega
      have hlt' : ¬ (j : Int) < (j : Int) := by omega
      go_wp2_with fail
      go_ret
      exact ⟨by rw [HZ.out]; rfl, HT.out.1⟩
/-- A tree's nodes below one, counted. -/
theorem size_any {t : Tr} (hb : Sm t) (hs : ∀ x ∈ t.nodes, x.shp = true) (hi : t.ins) : ∀ (f i dd : Nat), f < dd → dd ≤ 300 → i < t.nodes.length → okD t.sub t.leaf f i → (pre t.sub f i).length ≤ 2000 → ∀ (w : World) (v : Value), Tm w v t →
    Calls Tryz.prog 32 #[v, .int .i64 (i : Nat), .int .i64 (dd : Nat)] w fun e w' => e = .returned (.int .i64 ((pre t.sub f i).length : Nat)) ∧ Below w.heap.size w w'
  | 0, i, dd, hd, hd3, hlt, ⟨x, hx, hk⟩, hp, w, v, hv => by
    have hm := List.mem_of_getElem? hx
    have h0 := shp_leaf (hs x hm) hk
    have := size_step (F := fun _ => 1) hx (by omega) hd3 rfl (fun j hj => by omega) (by show 1 ≤ 2000; omega) (hb.2 x hm).2 hb.1 (fun j s hj => by rw [h0] at hj; simp at hj) w v hv
    exact this
  | f + 1, i, dd, hd, hd3, hlt, h, hp, w, v, hv => by
    have h : ∀ s ∈ t.sub i, okD t.sub t.leaf f s := h
    obtain ⟨x, hx⟩ := get_lt hlt
    have hm := List.mem_of_getElem? hx
    have hsub : t.sub i = x.subs.map Int.toNat := by rw [Tr.sub, hx]
    rw [pre, hsub, List.length_cons] at hp
    rw [pre, hsub, List.length_cons]
    have hft := fun j => flat_take (pre t.sub f) (x.subs.map Int.toNat) j
    have step : ∀ j s, x.subs[j]? = some s → (((x.subs.map Int.toNat).take (j + 1)).flatMap (pre t.sub f)).length = (((x.subs.map Int.toNat).take j).flatMap (pre t.sub f)).length + (pre t.sub f s.toNat).length := fun j s hj => by
      rw [List.take_add_one, List.getElem?_map, hj]
      simp [List.flatMap_append]
    have pos : ∀ s, 0 < (pre t.sub f s).length := fun s => by cases f <;> simp [pre]
    have := size_step (F := fun j => (((x.subs.map Int.toNat).take j).flatMap (pre t.sub f)).length + 1) (dd := dd) hx (by omega) hd3 (by simp) (fun j hj => by
      obtain ⟨s, hj⟩ := get_lt hj
      have h1 := step j s hj
      have h2 := hft (j + 1)
      have h3 := pos s.toNat
      show _ + 1 < 2000
      omega) (by have := hft x.subs.length; show _ + 1 ≤ 2000; omega) (hb.2 x hm).2 hb.1 (fun j s hj => by
      have hr := hi x hm s (List.mem_of_getElem? hj)
      have hmem : s.toNat ∈ t.sub i := by rw [hsub]; exact List.mem_map.2 ⟨s, List.mem_of_getElem? hj, rfl⟩
      have h1 := step j s hj
      have h2 := hft (j + 1)
      refine ⟨(pre t.sub f s.toNat).length, by show _ + 1 = _ + 1 + _; omega, by omega, fun w v hv => ?_⟩
      have := size_any hb hs hi f s.toNat (dd - 1) (by omega) (by omega) (by omega) (h _ hmem) (by omega) w v hv
      rwa [show ((s.toNat : Nat) : Int) = s by omega, show ((dd - 1 : Nat) : Int) = (dd : Int) - 1 by omega] at this) w v hv
    have e : (x.subs.map Int.toNat).take x.subs.length = x.subs.map Int.toNat := List.take_of_length_le (by rw [List.length_map]; exact Nat.le_refl _)
    rw [e] at this
    exact this
end Tt
end Go.Proofs.YtggeiajbcehkjaaGreatDoor
