/- What landed: what has no radix's prefix. -/
import Derived.Test.YtbeefjhcbphiaaaGreatDoorGh
namespace Go.Proofs.YtbeefjhcbphiaaaGreatDoor.II
open Go.RowKit

/-- Does a nought stand ahead of more? -/
def nau (r : List UInt8) : Bool := decide (1 < r.length ∧ r.head? = some 48)
def sgv (m : Bool) (r : List UInt8) : Value := if nau r = true then .tuple #[wrv false 0 ⟨#[]⟩, .bool false] else .tuple #[wrv m 10 (txt r), .bool true]
theorem nau_short {r : List UInt8} (h : ¬ 1 < r.length) : nau r = false := by simp [nau]; omega
theorem nau_at {r : List UInt8} (h : 1 < r.length) : nau r = decide (bt r 0 = 48) := by
  obtain ⟨c, q, e⟩ := List.exists_cons_of_ne_nil (l := r) (by rintro rfl; simp at h)
  subst e
  unfold nau
  congr 1
  apply propext
  show 1 < (c :: q).length ∧ some c = some 48 ↔ (c.toNat : Int) = 48
  constructor
  · rintro ⟨_, h⟩; injection h with h; rw [h]; rfl
  · intro h2; exact ⟨h, by rw [by_num (k := 48) (y := (c.toNat : Int)) rfl (by omega) h2]; rfl⟩
set_option maxHeartbeats 4000000 in
set_option maxRecDepth 100000 in
theorem psigned_is {l r : List UInt8} {m : Bool} {s : ByteArray} {v : Value} (w : World) (hs : s = txt l) (hl : l.length ≤ 100000) (hx : rdx l = false) (hp : In.pre l = (10, m, r)) (hv : v = sgv m r) :
    Calls Tryz.prog 200 #[.string s] w fun e w' => e = .returned v ∧ Below w.heap.size w w' := by
  have HS := Lib.hid hs
  have HZ := Lib.hid (show s.size = l.length by rw [hs, txt_size])
  have hsz : s.size ≤ 100000 := by rw [HZ.out]; exact hl
  have HV := Lib.hid hv
  have HP := Lib.hid (show (10, m, r) = if 0 < l.length ∧ bt l 0 = 43 then (10, false, l.drop 1) else if 0 < l.length ∧ bt l 0 = 45 then (10, true, l.drop 1) else (10, false, l) by rw [← hp]; exact pre_sgn hx)
  have hx0 := txt_at hs (k := 0)
  obtain ⟨y0, HY0⟩ : ∃ y, Hid (y = bt l 0) := ⟨_, Lib.hid rfl⟩
  rw [← HY0.out] at hx0 HP
  rw [← HZ.out] at HP
  have HSE := Lib.hid (iseq_l hs [])
  clear hs hl hv hx hp
  by_cases i0 : 0 < s.size
  · have hem : (s.toList == []) = false := by rw [HSE.out, decide_eq_false_iff_not]; intro e; have := HZ.out; rw [e, List.length_nil] at this; omega
    have hem2 : s.toList.isEmpty = false := by simpa using hem
    by_cases c1 : y0 = 43
    · have HPP := Lib.hid (show (10, m, r) = (10, false, l.drop 1) by rw [HP.out, if_pos ⟨i0, c1⟩])
      subst c1
      obtain rfl : r = (l.drop 1) := congrArg (fun q => q.2.2) HPP.out
      obtain rfl : m = false := congrArg (fun q => q.2.1) HPP.out
      obtain ⟨T, hT⟩ : ∃ T, T = s.extract 1 s.size := ⟨_, rfl⟩
      have hTe : s.extract 1 s.size = T := hT.symm
      have HT := Lib.hid (show T = txt (l.drop 1) by rw [hT, HS.out, txt_cut, txt_size, List.take_length])
      have HTZ := Lib.hid (show T.size = (l.drop 1).length by rw [HT.out, txt_size])
      have hz0 := txt_at HT.out (k := 0)
      obtain ⟨z0, HZ0⟩ : ∃ y, Hid (y = bt (l.drop 1) 0) := ⟨_, Lib.hid rfl⟩
      rw [← HZ0.out] at hz0
      clear hT
      by_cases q1 : 1 < T.size
      · have q1i : (1 : Int) < T.size := by omega
        have j0 : 0 < T.size := by omega
        by_cases q2 : z0 = 48
        · have F := Lib.hid (show v = .tuple #[wrv false 0 ⟨#[]⟩, .bool false] by rw [HV.out, sgv, if_pos]; rw [nau_at (by rw [← HTZ.out]; exact q1), ← HZ0.out]; exact decide_eq_true q2)
          subst q2
          go_enter Tryz.func200, Tryz.ntmps200
          go_wp2_with fail
          refine bodyPost_ret (v := .tuple #[wrv false 0 ⟨#[]⟩, .bool false]) (by simp [results, Tryz.results200, go_sem, *]) rfl ?_
          exact ⟨by rw [F.out], by (first | exact (Below.refl w.heap.size w).alloc (Nat.le_refl _) _ | exact ((Below.refl w.heap.size w).alloc (Nat.le_refl _) _).setCell (Nat.le_refl _) _ | exact (((Below.refl w.heap.size w).alloc (Nat.le_refl _) _).setCell (Nat.le_refl _) _).setCell (Nat.le_refl _) _)⟩
        · have q2i : (z0 == 48) = false := by simp [q2]
          have F := Lib.hid (show v = .tuple #[wrv false 10 T, .bool true] by rw [HV.out, sgv, if_neg, HT.out]; rw [nau_at (by rw [← HTZ.out]; exact q1), ← HZ0.out]; simp [q2])
          go_enter Tryz.func200, Tryz.ntmps200
          go_wp2_with fail
          refine bodyPost_ret (v := .tuple #[wrv false 10 T, .bool true]) (by simp [results, Tryz.results200, go_sem, *]) rfl ?_
          exact ⟨by rw [F.out], by (first | exact (Below.refl w.heap.size w).alloc (Nat.le_refl _) _ | exact ((Below.refl w.heap.size w).alloc (Nat.le_refl _) _).setCell (Nat.le_refl _) _ | exact (((Below.refl w.heap.size w).alloc (Nat.le_refl _) _).setCell (Nat.le_refl _) _).setCell (Nat.le_refl _) _)⟩
      · have q1i : ¬ (1 : Int) < T.size := by omega
        have F := Lib.hid (show v = .tuple #[wrv false 10 T, .bool true] by rw [HV.out, sgv, if_neg, HT.out]; rw [nau_short (by rw [← HTZ.out]; exact q1)]; simp)
        go_enter Tryz.func200, Tryz.ntmps200
        go_wp2_with fail
        refine bodyPost_ret (v := .tuple #[wrv false 10 T, .bool true]) (by simp [results, Tryz.results200, go_sem, *]) rfl ?_
        exact ⟨by rw [F.out], by (first | exact (Below.refl w.heap.size w).alloc (Nat.le_refl _) _ | exact ((Below.refl w.heap.size w).alloc (Nat.le_refl _) _).setCell (Nat.le_refl _) _ | exact (((Below.refl w.heap.size w).alloc (Nat.le_refl _) _).setCell (Nat.le_refl _) _).setCell (Nat.le_refl _) _)⟩
    · have d1 : (y0 == 43) = false := by simp [c1]
      by_cases c2 : y0 = 45
      · have HPP := Lib.hid (show (10, m, r) = (10, true, l.drop 1) by rw [HP.out, if_neg (fun h => c1 h.2), if_pos ⟨i0, c2⟩])
        subst c2
        obtain rfl : r = (l.drop 1) := congrArg (fun q => q.2.2) HPP.out
        obtain rfl : m = true := congrArg (fun q => q.2.1) HPP.out
        obtain ⟨T, hT⟩ : ∃ T, T = s.extract 1 s.size := ⟨_, rfl⟩
        have hTe : s.extract 1 s.size = T := hT.symm
        have HT := Lib.hid (show T = txt (l.drop 1) by rw [hT, HS.out, txt_cut, txt_size, List.take_length])
        have HTZ := Lib.hid (show T.size = (l.drop 1).length by rw [HT.out, txt_size])
        have hz0 := txt_at HT.out (k := 0)
        obtain ⟨z0, HZ0⟩ : ∃ y, Hid (y = bt (l.drop 1) 0) := ⟨_, Lib.hid rfl⟩
        rw [← HZ0.out] at hz0
        clear hT
        by_cases q1 : 1 < T.size
        · have q1i : (1 : Int) < T.size := by omega
          have j0 : 0 < T.size := by omega
          by_cases q2 : z0 = 48
          · have F := Lib.hid (show v = .tuple #[wrv false 0 ⟨#[]⟩, .bool false] by rw [HV.out, sgv, if_pos]; rw [nau_at (by rw [← HTZ.out]; exact q1), ← HZ0.out]; exact decide_eq_true q2)
            subst q2
            go_enter Tryz.func200, Tryz.ntmps200
            go_wp2_with fail
            refine bodyPost_ret (v := .tuple #[wrv false 0 ⟨#[]⟩, .bool false]) (by simp [results, Tryz.results200, go_sem, *]) rfl ?_
            exact ⟨by rw [F.out], by (first | exact (Below.refl w.heap.size w).alloc (Nat.le_refl _) _ | exact ((Below.refl w.heap.size w).alloc (Nat.le_refl _) _).setCell (Nat.le_refl _) _ | exact (((Below.refl w.heap.size w).alloc (Nat.le_refl _) _).setCell (Nat.le_refl _) _).setCell (Nat.le_refl _) _)⟩
          · have q2i : (z0 == 48) = false := by simp [q2]
            have F := Lib.hid (show v = .tuple #[wrv true 10 T, .bool true] by rw [HV.out, sgv, if_neg, HT.out]; rw [nau_at (by rw [← HTZ.out]; exact q1), ← HZ0.out]; simp [q2])
            go_enter Tryz.func200, Tryz.ntmps200
            go_wp2_with fail
            refine bodyPost_ret (v := .tuple #[wrv true 10 T, .bool true]) (by simp [results, Tryz.results200, go_sem, *]) rfl ?_
            exact ⟨by rw [F.out], by (first | exact (Below.refl w.heap.size w).alloc (Nat.le_refl _) _ | exact ((Below.refl w.heap.size w).alloc (Nat.le_refl _) _).setCell (Nat.le_refl _) _ | exact (((Below.refl w.heap.size w).alloc (Nat.le_refl _) _).setCell (Nat.le_refl _) _).setCell (Nat.le_refl _) _)⟩
        · have q1i : ¬ (1 : Int) < T.size := by omega
          have F := Lib.hid (show v = .tuple #[wrv true 10 T, .bool true] by rw [HV.out, sgv, if_neg, HT.out]; rw [nau_short (by rw [← HTZ.out]; exact q1)]; simp)
          go_enter Tryz.func200, Tryz.ntmps200
          go_wp2_with fail
          refine bodyPost_ret (v := .tuple #[wrv true 10 T, .bool true]) (by simp [results, Tryz.results200, go_sem, *]) rfl ?_
          exact ⟨by rw [F.out], by (first | exact (Below.refl w.heap.size w).alloc (Nat.le_refl _) _ | exact ((Below.refl w.heap.size w).alloc (Nat.le_refl _) _).setCell (Nat.le_refl _) _ | exact (((Below.refl w.heap.size w).alloc (Nat.le_refl _) _).setCell (Nat.le_refl _) _).setCell (Nat.le_refl _) _)⟩
      · have d2 : (y0 == 45) = false := by simp [c2]
        have HPP := Lib.hid (show (10, m, r) = (10, false, l) by rw [HP.out, if_neg (fun h => c1 h.2), if_neg (fun h => c2 h.2)])
        obtain rfl : r = l := congrArg (fun q => q.2.2) HPP.out
        obtain rfl : m = false := congrArg (fun q => q.2.1) HPP.out
        have HT := HS
        have HTZ := Lib.hid (show s.size = r.length by rw [HT.out, txt_size])
        have HZ0 := HY0
        by_cases q1 : 1 < s.size
        · have q1i : (1 : Int) < s.size := by omega
          have j0 : 0 < s.size := by omega
          by_cases q2 : y0 = 48
          · have F := Lib.hid (show v = .tuple #[wrv false 0 ⟨#[]⟩, .bool false] by rw [HV.out, sgv, if_pos]; rw [nau_at (by rw [← HTZ.out]; exact q1), ← HZ0.out]; exact decide_eq_true q2)
            subst q2
            go_enter Tryz.func200, Tryz.ntmps200
            go_wp2_with fail
            refine bodyPost_ret (v := .tuple #[wrv false 0 ⟨#[]⟩, .bool false]) (by simp [results, Tryz.results200, go_sem, *]) rfl ?_
            exact ⟨by rw [F.out], by (first | exact (Below.refl w.heap.size w).alloc (Nat.le_refl _) _ | exact ((Below.refl w.heap.size w).alloc (Nat.le_refl _) _).setCell (Nat.le_refl _) _ | exact (((Below.refl w.heap.size w).alloc (Nat.le_refl _) _).setCell (Nat.le_refl _) _).setCell (Nat.le_refl _) _)⟩
          · have q2i : (y0 == 48) = false := by simp [q2]
            have F := Lib.hid (show v = .tuple #[wrv false 10 s, .bool true] by rw [HV.out, sgv, if_neg, HT.out]; rw [nau_at (by rw [← HTZ.out]; exact q1), ← HZ0.out]; simp [q2])
            go_enter Tryz.func200, Tryz.ntmps200
            go_wp2_with fail
            refine bodyPost_ret (v := .tuple #[wrv false 10 s, .bool true]) (by simp [results, Tryz.results200, go_sem, *]) rfl ?_
            exact ⟨by rw [F.out], by (first | exact (Below.refl w.heap.size w).alloc (Nat.le_refl _) _ | exact ((Below.refl w.heap.size w).alloc (Nat.le_refl _) _).setCell (Nat.le_refl _) _ | exact (((Below.refl w.heap.size w).alloc (Nat.le_refl _) _).setCell (Nat.le_refl _) _).setCell (Nat.le_refl _) _)⟩
        · have q1i : ¬ (1 : Int) < s.size := by omega
          have F := Lib.hid (show v = .tuple #[wrv false 10 s, .bool true] by rw [HV.out, sgv, if_neg, HT.out]; rw [nau_short (by rw [← HTZ.out]; exact q1)]; simp)
          go_enter Tryz.func200, Tryz.ntmps200
          go_wp2_with fail
          refine bodyPost_ret (v := .tuple #[wrv false 10 s, .bool true]) (by simp [results, Tryz.results200, go_sem, *]) rfl ?_
          exact ⟨by rw [F.out], by (first | exact (Below.refl w.heap.size w).alloc (Nat.le_refl _) _ | exact ((Below.refl w.heap.size w).alloc (Nat.le_refl _) _).setCell (Nat.le_refl _) _ | exact (((Below.refl w.heap.size w).alloc (Nat.le_refl _) _).setCell (Nat.le_refl _) _).setCell (Nat.le_refl _) _)⟩
  · have hem : (s.toList == []) = true := by rw [HSE.out]; exact decide_eq_true (List.eq_nil_of_length_eq_zero (by rw [← HZ.out]; omega))
    have hem2 : s.toList.isEmpty = true := by simpa using hem
    have HPP := Lib.hid (show (10, m, r) = (10, false, l) by rw [HP.out, if_neg (fun h => i0 h.1), if_neg (fun h => i0 h.1)])
    obtain rfl : r = l := congrArg (fun q => q.2.2) HPP.out
    obtain rfl : m = false := congrArg (fun q => q.2.1) HPP.out
    have HT := HS
    have HTZ := Lib.hid (show s.size = r.length by rw [HT.out, txt_size])
    have HZ0 := HY0
    have q1 : ¬ 1 < s.size := by omega
    have q1i : ¬ (1 : Int) < s.size := by omega
    have F := Lib.hid (show v = .tuple #[wrv false 10 s, .bool true] by rw [HV.out, sgv, if_neg, HT.out]; rw [nau_short (by rw [← HTZ.out]; exact q1)]; simp)
    go_enter Tryz.func200, Tryz.ntmps200
    go_wp2_with fail
    refine bodyPost_ret (v := .tuple #[wrv false 10 s, .bool true]) (by simp [results, Tryz.results200, go_sem, *]) rfl ?_
    exact ⟨by rw [F.out], by (first | exact (Below.refl w.heap.size w).alloc (Nat.le_refl _) _ | exact ((Below.refl w.heap.size w).alloc (Nat.le_refl _) _).setCell (Nat.le_refl _) _ | exact (((Below.refl w.heap.size w).alloc (Nat.le_refl _) _).setCell (Nat.le_refl _) _).setCell (Nat.le_refl _) _)⟩
end Go.Proofs.YtbeefjhcbphiaaaGreatDoor.II
