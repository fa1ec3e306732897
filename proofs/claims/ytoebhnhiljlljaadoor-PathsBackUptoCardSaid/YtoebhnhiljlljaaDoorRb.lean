/- What landed of paths: a place that is told. -/
import Derived.Test.YtoebhnhiljlljaaDoorRa
import Derived.Test.YtoebhnhiljlljaaDoorPq
import Derived.Lib.AtoiAllCases
namespace Go.Proofs.YtoebhnhiljlljaaDoor
open Go.RowKit
namespace Pa
set_option maxRecDepth 100000

theorem parse_of : ∀ (l : Bs) (a : Nat), (∀ c ∈ l, 48 ≤ c.toNat ∧ c.toNat ≤ 57) → l.foldl (fun a c => a * 10 + (c.toNat - 48)) a ≤ 9223372036854775807 → Lib.parseUint10 a l = .ok (l.foldl (fun a c => a * 10 + (c.toNat - 48)) a)
  | [], a, _, _ => rfl
  | c :: r, a, hc, hm => by
    have h1 := hc c (List.mem_cons_self ..)
    rw [List.foldl_cons] at hm ⊢
    have h2 := fold_le r (a * 10 + (c.toNat - 48))
    rw [Lib.parseUint10, if_pos h1, if_neg (by omega), if_neg (by omega)]
    exact parse_of r _ (fun d hd => hc d (List.mem_cons_of_mem _ hd)) hm
theorem atoi_digs {n : Nat} (h : n ≤ 9223372036854775807) : Lib.atoiAll (digs n) = .ok (n : Int) := by
  have e : (digs n).foldl (fun a c => a * 10 + (c.toNat - 48)) 0 = n := digs_num n
  have h1 := parse_of (digs n) 0 (digs_mem n) (by rw [e]; exact h)
  rw [e] at h1
  have hm := digs_mem n
  have hne := digF_ne n n
  cases hd : digs n with
  | nil => exact absurd hd hne
  | cons c r =>
    rw [hd] at h1 hm
    have hc := hm c (List.mem_cons_self ..)
    rw [Lib.atoiAll_plain c r (by omega) (by omega), Lib.parseMag, if_neg (by simp), h1]
    simp only [Lib.signless]
    rw [if_neg (by omega)]
/-- The library's errors. -/
def Er (w : World) : Prop := (∃ te pe, w.cell? ⟨2, 0, none⟩ = some (.iface te pe)) ∧ (∃ te pe, w.cell? ⟨3, 0, none⟩ = some (.iface te pe))
theorem Er.up {w w' : World} (h : Er w) (hb : Below w.heap.size w w') : Er w' := by
  obtain ⟨⟨a, b, h1⟩, c, d, h2⟩ := h
  exact ⟨⟨a, b, cell_old hb (World.block_lt_of_cell? w _ h1) h1⟩, c, d, cell_old hb (World.block_lt_of_cell? w _ h2) h2⟩
def TL (w : World) : Prop := P10 w ∧ Er w
theorem TL.up {w w' : World} (h : TL w) (hb : Below w.heap.size w w') : TL w' := ⟨h.1.up hb, h.2.up hb⟩
set_option maxHeartbeats 4000000 in
theorem number_any {t : Bs} {s : ByteArray} (w : World) (hs : s = txt t) (hl : t.length ≤ 10000000) (hT : TL w) :
    Calls Tryd.prog 58 #[.string s] w fun e w' => (∃ z : Int, e = .returned (.tuple #[.int .i64 z, .bool (nb t).isSome]) ∧ ∀ n, nb t = some n → z = (n : Nat)) ∧ Below w.heap.size w w' := by
  have hz : s.size = t.length := by rw [hs, txt_size]
  have hd : s.data.toList = t := by rw [hs]; simp [txt]
  have HS := Lib.hid hs
  cases hn : nb t with
  | some n =>
    obtain ⟨e, hn9⟩ := nb_some hn
    have C1 := Lib.hid (Tryd.strconv_Atoi_ok s (by omega) (n : Nat) (by rw [hd, ← e]; exact atoi_digs hn9) w)
    have CI := Lib.hid (fun (w' : World) (hb : Below w.heap.size w w') => itoa_any (p := (n : Nat)) w' (by omega) (by omega) (hT.1.up hb))
    rw [Int.toNat_natCast, e, ← hs] at CI
    clear hs hd hz hn hT e hl
    go_enter Tryd.func58, Tryd.ntmps58
    go_wp2_with fail
    refine C1.out.mono ?_
    rintro e w2 ⟨rfl, hw⟩
    have hb : Below w.heap.size w w2 := by
      rcases hw with rfl | ⟨u, rfl⟩
      · exact Below.refl _ _
      · exact Go.Joins.below_bytesWorld _ _ _ _ (Nat.le_refl _)
    have HB := Lib.hid hb
    clear hw hb
    go_wp2_with fail
    refine (CI.out w2 HB.out).mono ?_
    rintro e w3 ⟨rfl, hb⟩
    have HB3 := Lib.hid (below_tr HB.out hb)
    clear hb
    go_wp2_with fail
    refine bodyPost_ret (v := .tuple #[.int .i64 (n : Nat), .bool true]) (by simp [results, Tryd.results58, go_sem, *]) rfl ?_
    exact ⟨⟨_, rfl, fun m hm => by injection hm with hm; rw [hm]⟩, HB3.out⟩
  | none =>
    have HN := Lib.hid hn
    cases ha : Lib.atoiAll t with
    | ok v =>
      have C1 := Lib.hid (Tryd.strconv_Atoi_ok s (by omega) v (by rw [hd]; exact ha) w)
      obtain ⟨b0, b1⟩ := Lib.atoiAll_bounds ha
      by_cases hv : 0 ≤ v
      · have CI := Lib.hid (fun (w' : World) (hb : Below w.heap.size w w') => itoa_any (p := v) w' hv b1 (hT.1.up hb))
        obtain ⟨S2, hS2⟩ : ∃ S, S = txt (digs v.toNat) := ⟨_, rfl⟩
        have HNE := Lib.hid (show (S2.toList == s.toList) = false by
          rw [beq_eq_false_iff_ne, hS2, hs]
          intro e
          exact nb_none hn (n := v.toNat) (by omega) (txt_list.1 e))
        have HNE2 := HNE.out
        rw [← hS2] at CI
        clear hs hd hz hn hT ha hl hS2
        go_enter Tryd.func58, Tryd.ntmps58
        go_wp2_with fail
        refine C1.out.mono ?_
        rintro e w2 ⟨rfl, hw⟩
        have hb : Below w.heap.size w w2 := by
          rcases hw with rfl | ⟨u, rfl⟩
          · exact Below.refl _ _
          · exact Go.Joins.below_bytesWorld _ _ _ _ (Nat.le_refl _)
        have HB := Lib.hid hb
        clear hw hb
        go_wp2_with fail
        refine (CI.out w2 HB.out).mono ?_
        rintro e w3 ⟨rfl, hb⟩
        have HB3 := Lib.hid (below_tr HB.out hb)
        clear hb
        go_wp2_with fail
        refine bodyPost_ret (v := .tuple #[.int .i64 v, .bool false]) (by simp [results, Tryd.results58, go_sem, *]) rfl ?_
        exact ⟨⟨_, rfl, fun m hm => by cases hm⟩, HB3.out⟩
      · clear hs hd hz hn hT ha hl
        go_enter Tryd.func58, Tryd.ntmps58
        go_wp2_with fail
        refine C1.out.mono ?_
        rintro e w2 ⟨rfl, hw⟩
        have hb : Below w.heap.size w w2 := by
          rcases hw with rfl | ⟨u, rfl⟩
          · exact Below.refl _ _
          · exact Go.Joins.below_bytesWorld _ _ _ _ (Nat.le_refl _)
        have HB := Lib.hid hb
        clear hw hb
        go_wp2_with fail
        refine bodyPost_ret (v := .tuple #[.int .i64 v, .bool false]) (by simp [results, Tryd.results58, go_sem, *]) rfl ?_
        first | exact ⟨⟨_, rfl⟩, HB.out⟩ | exact ⟨⟨_, rfl, fun m hm => by cases hm⟩, HB.out⟩
    | range =>
      obtain ⟨te, pe, hev⟩ := hT.2.2
      have C1 := Lib.hid (Tryd.strconv_Atoi_range s (by omega) (by rw [hd]; exact ha) _ w hev (.inr ⟨te, pe, rfl⟩))
      obtain ⟨z, hz9⟩ : ∃ z, z = Lib.atoiSat s.data.toList := ⟨_, rfl⟩
      rw [← hz9] at C1
      clear hs hd hz hn hT ha hl hev hz9
      go_enter Tryd.func58, Tryd.ntmps58
      go_wp2_with fail
      refine C1.out.mono ?_
      rintro e w2 ⟨N, rfl, hN, hc, hb⟩
      have HB := Lib.hid hb
      clear hb hc hN
      go_wp2_with fail
      refine bodyPost_ret (v := .tuple #[.int .i64 z, .bool false]) (by simp [results, Tryd.results58, go_sem, *]) rfl ?_
      exact ⟨⟨_, rfl, fun m hm => by cases hm⟩, HB.out⟩
    | _ =>
      obtain ⟨te, pe, hev⟩ := hT.2.1
      have C1 := Lib.hid (Tryd.strconv_Atoi_syntax s (by omega) (by rw [hd, ha]; exact ⟨fun v e => (by cases e), fun e => (by cases e)⟩) _ w hev (.inr ⟨te, pe, rfl⟩))
      clear hs hd hz hn hT ha hl hev
      go_enter Tryd.func58, Tryd.ntmps58
      go_wp2_with fail
      refine C1.out.mono ?_
      rintro e w2 ⟨N, rfl, hN, hc, hb⟩
      have HB := Lib.hid hb
      clear hb hc hN
      go_wp2_with fail
      refine bodyPost_ret (v := .tuple #[.int .i64 0, .bool false]) (by simp [results, Tryd.results58, go_sem, *]) rfl ?_
      exact ⟨⟨_, rfl, fun m hm => by cases hm⟩, HB.out⟩
end Pa
end Go.Proofs.YtoebhnhiljlljaaDoor
