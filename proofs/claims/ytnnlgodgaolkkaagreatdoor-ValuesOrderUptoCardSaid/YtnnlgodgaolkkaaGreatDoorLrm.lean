/- What landed of values: texts of entries, and the ends of lists and maps. -/
import Derived.Test.YtnnlgodgaolkkaaGreatDoorLqm
import Derived.Test.YtnnlgodgaolkkaaGreatDoorLim
namespace Go.Proofs.YtnnlgodgaolkkaaGreatDoor
open Go.RowKit
namespace Va
set_option maxRecDepth 100000

theorem row_ne {base : Nat} {w : World} {b : Value} {t : Bs} {g : Nat} (h : BW base w b t) (hg : ∃ cur, w.heap[g]? = some (.cells cur 56 (0, 0))) : some g ≠ b.ownBlock := by
  obtain ⟨cur, hg⟩ := hg
  intro e
  rcases h.1.2 with ⟨rfl, _⟩ | ⟨g', c, cur', rfl, _, hg', _⟩
  · cases e
  · have e : g = g' := by simpa [Value.ownBlock] using e
    subst e
    rw [hg] at hg'
    have := Option.some.inj hg'
    injection this with _ e2 _
    exact absurd e2 (by decide)
theorem cell_fst1 (w : World) (v : Value) (t : TypeId) : (w.alloc (.cells #[v] t)).cell? ⟨w.heap.size, 0, none⟩ = some v := by
  have e := heap_alloc_new w (.cells #[v] t)
  simp only [World.cell?, e]
  rfl
/-- What is said of a row holds of each of its cuts. -/
theorem BG.same {w w' : World} {b c b' : Value} (h : BG w w' b b') (e : b.ownBlock = c.ownBlock) : BG w w' c b' := ⟨h.os, h.tape, h.output, h.size, fun k hk hn => h.block k hk (by rw [e]; exact hn), by rw [← e]; exact h.own⟩
theorem Er.bg {base : Nat} {w w' : World} {b b' : Value} {t : Bs} {A : Option Addr} {E : List (Bs × V)} (h : Er w (fun g => g < base) A E) (hb : BW base w b t) (hg : BG w w' b b') : Er w' (fun g => g < base) A E := fun h0 => by
  obtain ⟨g, o, e, hr, hf⟩ := h h0
  have hs := hg.block g (lt_of_row hr) (row_ne hb hr)
  refine ⟨g, o, e, by obtain ⟨cur, hr⟩ := hr; exact ⟨cur, hs.trans hr⟩, fun i s x hx => ?_⟩
  obtain ⟨e1, h1, h2, h3⟩ := hf i s x hx
  exact ⟨e1, h1, Vb.on h2 (hb.below hg), fun j u hj => cell_eq hs (h3 j u hj)⟩
theorem keepE {base : Nat} {w w' : World} {b b' : Value} {t : Bs} {h : Nat} {p q r s u : Value} (hb : BW base w b t) (hg : BG w w' b b') (hh : w.heap[h]? = some (eO p q r s u)) : w'.heap[h]? = some (eO p q r s u) :=
  (hg.block h (Array.getElem?_eq_some_iff.1 hh).1 (row_ne hb ⟨_, hh⟩)).trans hh
theorem vcells5 {w : World} {h : Nat} {p q r s : Value} (hh : w.heap[h]? = some (vO p q r s)) : w.cell? ⟨h, 0, none⟩ = some p ∧ w.cell? ⟨h, 1, none⟩ = some q ∧ w.cell? ⟨h, 2, none⟩ = some r ∧ w.cell? ⟨h, 3, none⟩ = some s := by
  simp [World.cell?, hh]
theorem ecells {w : World} {h : Nat} {p q r s u : Value} (hh : w.heap[h]? = some (eO p q r s u)) : w.cell? ⟨h, 1, none⟩ = some q ∧ w.cell? ⟨h, 2, none⟩ = some r ∧ w.cell? ⟨h, 3, none⟩ = some s ∧ w.cell? ⟨h, 4, none⟩ = some u := by
  simp [World.cell?, hh]
/-- A row of one's own, cut by its last. -/
theorem own_cut {w : World} {base g n c : Nat} {l : Bs} {x : UInt8} (h : w.ownsRow base 5 1 (.slice (some ⟨g, 0, none⟩) n c) n (bytV (l ++ [x]))) (hn : n = l.length + 1) : w.ownsRow base 5 1 (.slice (some ⟨g, 0, none⟩) l.length c) l.length (bytV l) := by
  subst hn
  refine ⟨by rw [bytV_len]; omega, ?_⟩
  rcases h.2 with ⟨e, _⟩ | ⟨g', c', cur, e, h1, h2, h3, h4, h5, h6⟩
  · cases e
  · obtain ⟨rfl, rfl⟩ : g = g' ∧ c = c' := by simpa using e
    refine .inr ⟨g, c, cur, rfl, h1, h2, by omega, h4, h5, ?_⟩
    have := congrArg (List.take (l.length * 1)) h6
    rw [List.take_take, Nat.min_eq_left (by omega)] at this
    rw [this, show bytV (l ++ [x]) = bytV l ++ bytV [x] by simp [bytV], List.take_append_of_le_length (by rw [bytV_len]; omega), List.take_of_length_le (by rw [bytV_len]; omega)]
set_option maxHeartbeats 4000000 in
theorem end_some {base : Nat} {b : Value} {p : Nat} {c x : UInt8} {l : Bs} (w : World) (hp : 0 < p) (hb : BW base w b (l ++ [x])) (hlen : l.length + 1 ≤ 900000000) :
    Calls Tryz.prog 79 #[b, .int .i64 p, .int .u8 (c.toNat : Int)] w fun e w' => ∃ b', e = .returned b' ∧ BW base w' b' (l ++ [c]) ∧ BG w w' b b' := by
  obtain ⟨i0, hi, hz0, hz1, hz2⟩ := info_parts (show (Tryz.prog.info? 5).map (fun i => (i.zero, i.size, i.bytes)) = some (some (.int .u8 0), 1, 1) by kernel_rfl)
  obtain ⟨A, cap, rfl, o1, o2, o3, o4, o5⟩ := own_form hb.1
  obtain ⟨g, hA⟩ : ∃ g, A = some ⟨g, 0, none⟩ := by
    rcases hb.1.2 with ⟨_, e⟩ | ⟨g, _, _, e, _⟩
    · simp at e
    · injection e with e _ _; exact ⟨g, e⟩
  subst hA
  have hbn : BW base w (.slice (some ⟨g, 0, none⟩) l.length cap) l := ⟨own_cut hb.1 (by simp), hb.2⟩
  have HB := Lib.hid hbn
  have hpp : (0 : Int) < (p : Int) := by omega
  obtain ⟨n, hn⟩ : ∃ n, n = l.length := ⟨_, rfl⟩
  obtain ⟨N, hN⟩ : ∃ N, N = (l ++ [x]).length := ⟨_, rfl⟩
  have hN2 : N = n + 1 := by rw [hN, hn]; simp
  rw [← hN] at o1 ⊢
  rw [← hn] at HB hlen
  have HN := Lib.hid hn
  subst hN2
  obtain ⟨C, hC⟩ : ∃ C, C = (c.toNat : Int) := ⟨_, rfl⟩
  have HC := Lib.hid hC
  rw [← hC]
  clear hp hb o3 o4 o5 hbn hN hn hC
  go_enter Tryz.func79, Tryz.ntmps79
  go_upto_region 3 with fail
  go_wp2_with (at_builtin; refine wpAppB _ rfl (.tmp 14) (.tmp 16) 66 rfl base i0 Tryz.underlying66 hi hz0 hz1 hz2 (.slice (some ⟨g, 0, none⟩) n cap) l rfl (HB.out.on (below_new ..)) c w.heap.size rfl (by rw [← HC.out]; exact cell_fst1 ..) (by rw [← HN.out]; omega) ?_; intro v2 w2 h1 h2)
  go_ret
  exact ⟨_, rfl, h1, (BG.call _ (below_new ..)).trans (h2.same rfl)⟩
set_option maxHeartbeats 4000000 in
theorem end_none {base : Nat} {b : Value} {c : UInt8} {l : Bs} (w : World) (hb : BW base w b l) (hlen : l.length + 1 ≤ 900000000) :
    Calls Tryz.prog 79 #[b, .int .i64 0, .int .u8 (c.toNat : Int)] w fun e w' => ∃ b', e = .returned b' ∧ BW base w' b' (l ++ [c]) ∧ BG w w' b b' := by
  obtain ⟨i0, hi, hz0, hz1, hz2⟩ := info_parts (show (Tryz.prog.info? 5).map (fun i => (i.zero, i.size, i.bytes)) = some (some (.int .u8 0), 1, 1) by kernel_rfl)
  have HB := Lib.hid hb
  obtain ⟨C, hC⟩ : ∃ C, C = (c.toNat : Int) := ⟨_, rfl⟩
  have HC := Lib.hid hC
  rw [← hC]
  clear hb hC
  go_enter Tryz.func79, Tryz.ntmps79
  go_upto_region 3 with fail
  go_wp2_with (at_builtin; refine wpAppB _ rfl (.tmp 14) (.tmp 16) 66 rfl base i0 Tryz.underlying66 hi hz0 hz1 hz2 b l rfl (HB.out.on (below_new ..)) c w.heap.size rfl (by rw [← HC.out]; exact cell_fst1 ..) (by omega) ?_; intro v2 w2 h1 h2)
  go_ret
  exact ⟨_, rfl, h1, (BG.call _ (below_new ..)).trans h2⟩
set_option maxHeartbeats 4000000 in
theorem overQ_any {l : List (Bs × V)} {A : Option Addr} {c base : Nat} {W b0 : Value} {t0 R : Bs} (f : Nat → Bs → Bs) (w : World) (hV : Er w (fun g => g < base) A l) (hn : l.length ≤ 1000000) (hb0 : BW base w b0 t0) (hR : t0 ++ cmt (l.map (enW f)) = R) (hlen : R.length ≤ 900000000)
    (H : ∀ (i : Nat) (s : Bs) (x : V), l[i]? = some (s, x) → ∀ (w' : World) (e : En) (b : Value) (t : Bs), Below base w w' → e.key = s → Vb base w' e.val x → BW base w' b t → t.length + (enW f (s, x)).length + 1 ≤ 900000000 → Calls Tryz.prog 81 #[W, b, .agg e.enc.toArray] w' fun r w'' => ∃ b', r = .returned b' ∧ BW base w'' b' (t ++ enW f (s, x) ++ [44]) ∧ BG w' w'' b b') :
    Calls Tryz.prog 80 #[.slice A l.length c, b0, .func (.func 81) #[W] #[]] w fun e w' => ∃ b', e = .returned b' ∧ BW base w' b' R ∧ BG w w' b0 b' := by
  obtain ⟨n, HN⟩ : ∃ n, Hid (n = l.length) := ⟨_, Lib.hid rfl⟩
  rw [← HN.out] at hn ⊢
  have HV := Lib.hid hV
  have HH := Lib.hid H
  have HR := Lib.hid hR
  have HB0 := Lib.hid hb0
  have HLEN := Lib.hid hlen
  clear hV H hR hb0 hlen
  go_enter Tryz.func80, Tryz.ntmps80
  go_wp2_with fail
  go_loopw [1, 8, 11] (fun a _ i wx => ∃ (k : Nat) (t : Bs), k ≤ n ∧ i = .int .i64 k ∧ Hid (BW base wx a t ∧ BG w wx b0 a ∧ t ++ cmt ((l.drop k).map (enW f)) = R)) (fun _ _ i _ => n - (intOf i).toNat)
  case atStart => exact ⟨0, t0, Nat.zero_le _, rfl, Lib.hid ⟨HB0.out, BG.refl _ _, by rw [List.drop_zero]; exact HR.out⟩⟩
  case round =>
    obtain ⟨k, t, hk, rfl, HQ⟩ := hrel
    have HB := Lib.hid (HB0.out.below HQ.out.2.1)
    by_cases hlt : k < n
    · obtain ⟨⟨s, x⟩, hx⟩ := get_lt (l := l) (i := k) (by rw [← HN.out]; exact hlt)
      obtain ⟨g', o, rfl, hg, hf⟩ := HV.out (by rw [← HN.out]; omega)
      obtain ⟨e1, hek, hvm, hf5⟩ := hf k s x hx
      have hsame : wr.heap[g']? = w.heap[g']? := HQ.out.2.1.block g' (lt_of_row hg) (fun e => row_ne HB0.out hg e)
      obtain ⟨d0, d1, d2, d3, d4⟩ := En.five (o := o + k * 5) hf5
      have c0 := cell_eq hsame d0
      have c1 := cell_eq hsame d1
      have c2 := cell_eq hsame d2
      have c3 := cell_eq hsame d3
      have c4 := cell_eq hsame d4
      obtain ⟨S, hS⟩ : ∃ S, S = txt e1.key := ⟨_, rfl⟩
      rw [← hS] at c0
      have e9 : t ++ (enW f (s, x) ++ 44 :: cmt ((l.drop (k + 1)).map (enW f))) = R := by
        rw [← HQ.out.2.2]
        have := cmt_drop (L := l.map (enW f)) (i := k) (t := enW f (s, x)) (by rw [List.getElem?_map, hx]; rfl)
        rw [← List.map_drop, ← List.map_drop] at this
        rw [this]
      have HW1 := Lib.hid (below_new wr (eO (.string S) (.int .u8 e1.kd) (.string e1.tx) (.slice e1.A e1.n e1.c) (.slice e1.B e1.m e1.d)))
      have HB1 := Lib.hid (HB.out.trans (below_b HW1.out HQ.out.1.2))
      have CH := Lib.hid (HH.out k s x hx _ e1 u1 t HB1.out hek (Vb.on hvm HB1.out) (HQ.out.1.on HW1.out) (by
        have h1 := congrArg List.length e9
        have := HLEN.out
        rw [List.length_append, List.length_append, List.length_cons] at h1
        omega))
      rw [En.enc, ← hS] at CH
      have HE := Lib.hid (show (t ++ enW f (s, x) ++ [44]) ++ cmt ((l.drop (k + 1)).map (enW f)) = R from by rw [← e9]; simp)
      have HG := Lib.hid (HQ.out.2.1.trans (BG.call u1 HW1.out))
      clear d0 d1 d2 d3 d4 hvm hf hf5 hx e9 hS hek hsame
      go_wp2_with fail
      refine CH.out.mono ?_
      rintro e w2 ⟨b', rfl, h1, h2⟩
      have HQ2 := Lib.hid (And.intro h1 (And.intro (HG.out.trans h2) HE.out))
      clear h1 h2 c0 c1 c2 c3 c4 CH HQ
      go_wp2_with fail
      go_roundw
      case rel => exact ⟨k + 1, _, by omega, by go_num, HQ2⟩
      case measure => simp [intOf]; omega
    · have HE := Lib.hid (show t = R from by have := HQ.out.2.2; rw [List.drop_eq_nil_of_le (by rw [← HN.out]; omega)] at this; simpa [cmt] using this)
      go_wp2_with fail
      go_ret
      exact ⟨_, rfl, by rw [← HE.out]; exact HQ.out.1, HQ.out.2.1⟩
end Va
end Go.Proofs.YtnnlgodgaolkkaaGreatDoor
