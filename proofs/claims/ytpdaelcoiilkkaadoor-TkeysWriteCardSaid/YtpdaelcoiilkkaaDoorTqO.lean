/- The program's own writing of a string (TOML). -/
import Derived.Test.YtpdaelcoiilkkaaDoorTqPt
import Derived.Test.YtpdaelcoiilkkaaDoorConv
namespace Go.Proofs.YtpdaelcoiilkkaaDoor
open Go.RowKit

def WR (w wr : World) (t : List UInt8) (v : Value) : Prop := wr.ownsRow w.heap.size 5 1 v t.length (bytV t) ∧ Below w.heap.size w wr
theorem WR.of {w wr w' : World} {t u : List UInt8} {v v' : Value} {o : Obj} (h : WR w wr t v) (h1 : w'.ownsRow w.heap.size 5 1 v' (t.length + u.length) (bytV t ++ bytV u)) (h2 : (wr.alloc o).grownBy w' v.ownBlock) : WR w w' (t ++ u) v' := by
  refine ⟨by rw [List.length_append, show bytV (t ++ u) = bytV t ++ bytV u by simp [bytV]]; exact h1, ?_⟩
  refine (h.2.alloc h.2.size o).grown h2 (by have := h.2.size; simp; omega) (fun g e => ?_)
  rcases h.1.2 with ⟨rfl, _⟩ | ⟨g', cap, cur, rfl, hb', _⟩
  · cases e
  · obtain rfl : g' = g := by simpa [Value.ownBlock] using e
    exact hb'
theorem WR.conv {w wr : World} {t : List UInt8} {v : Value} (h : WR w wr t v) : ∃ A n c S, v = .slice A n c ∧ (convert 49 9 (.slice A n c)).run Tryd.prog wr = .ok (.string S) wr ∧ S = txt t := by
  obtain ⟨A, c, rfl, o1, o2, o3, o4, o5⟩ := own_form h.1
  exact ⟨A, _, c, _, rfl, conv_bytes _ c rfl o4, rfl⟩
theorem wes_len (t : List UInt8) : (Tq.wes t).length ≤ 6 * t.length := by
  induction t with
  | nil => simp [Tq.wes]
  | cons c t ih => have := Tq.we_len c; rw [Tq.wes_cons, List.length_append, List.length_cons]; omega
theorem wes_take {l : List UInt8} {k : Nat} (h : k < l.length) : Tq.wes (l.take (k + 1)) = Tq.wes (l.take k) ++ Tq.we l[k] := by
  rw [List.take_succ_eq_append_getElem h, Tq.wes_app]; simp [Tq.wes]
set_option maxHeartbeats 2000000 in
theorem twrite_any {l : List UInt8} {s : ByteArray} (w : World) (hs : s = txt l) (hl : l.length ≤ 1000000) (hS : TShorts w) (hz : 0 < w.heap.size) :
    Calls Tryd.prog 22 #[.string s] w fun e w' => e = .returned (.string (txt (Tq.wr l))) ∧ Below w.heap.size w w' := by
  obtain ⟨i0, hi, hz0, hz1, hz2⟩ := info_parts (show (Tryd.prog.info? 5).map (fun i => (i.zero, i.size, i.bytes)) = some (some (.int .u8 0), 1, 1) by kernel_rfl)
  have HS := Lib.hid hs
  have HL := Lib.hid hl
  have HSh := Lib.hid hS
  have HZ := Lib.hid (show s.size = l.length by rw [hs, txt_size])
  have hsz : s.size ≤ 1000000 := by rw [hs, txt_size]; exact hl
  clear hs hl hS
  go_enter Tryd.func22, Tryd.ntmps22
  go_wp2_with (first
    | (at_make; refine wpList_make_own _ rfl _ _ 49 rfl w.heap.size 5 i0 (.int .u8 0) 1 Tryd.underlying49 hi hz0 hz1 .i64 .i64 _ (s.size + 2) rfl rfl rfl (by rw [hz2]; omega) (by unfold maxLen; omega) (Nat.le_refl _) ?_; intro w1 hown1 hg1)
    | (at_builtin; refine wpApp _ rfl (.tmp 9) (.tmp 10) 49 rfl w.heap.size 5 i0 (.int .u8 0) 1 Tryd.underlying49 hi hz0 hz1 hz2 rfl (.slice (some ⟨w.heap.size, 0, none⟩) 0 (s.size + 2)) 0 [] rfl (hown1.alloc _) (some ⟨w1.heap.size, 0, none⟩) 1 1 _ [34] rfl rfl (cells_one' 34 34 (by decide)) (fun h => by cases h) (by unfold maxLen; omega) (by omega) (by have := hg1.size; simp; omega) ?_; intro v2 w2 hown2 hg2 _))
  have R0 : WR w w2 [34] v2 := WR.of (t := []) ⟨hown1, (Below.refl _ _).grown hg1 (Nat.le_refl _) (fun _ h => by cases h)⟩ hown2 hg2
  clear hown1 hg1 hown2 hg2
  go_loopw [3, 14] (fun v i wr => ∃ k : Nat, k ≤ s.size ∧ i = .int .i64 k ∧ WR w wr (34 :: Tq.wes (l.take k)) v) (fun _ i _ => s.size - (intOf i).toNat)
  case atStart => exact ⟨0, Nat.zero_le _, rfl, R0⟩
  case round =>
    obtain ⟨k, hk, rfl, R⟩ := hrel
    clear R0
    have HR := Lib.hid R
    have hlen : (34 :: Tq.wes (l.take k)).length ≤ 6000001 := by
      have := wes_len (l.take k)
      have h2 : (l.take k).length ≤ k := by simp; omega
      simp; omega
    by_cases hlt : k < s.size
    · have hkl : k < l.length := by rw [← HZ.out]; exact hlt
      have hx := txt_at HS.out (k := k)
      obtain ⟨y, HY⟩ : ∃ y, Hid (y = bt l k) := ⟨_, rfl⟩
      rw [← HY.out] at hx
      have HC := Lib.hid (show y = ((l[k]'hkl).toNat : Int) by rw [HY.out]; simp [bt, hkl])
      have HE := Lib.hid (wes_take hkl)
      have hzr : 0 < wr.heap.size := Nat.lt_of_lt_of_le hz R.2.size
      have HSr := Lib.hid (HSh.out.old hz R.2)
      have hbr := R.2.size
      clear R
      go_wp2_with fail
      refine (tput_any (l[k]'hkl) y HC.out HR.out.1 hbr HSr.out (by omega)).mono ?_
      rintro e w4 ⟨v', rfl, hown4, hb4⟩
      have N : Hid (WR w w4 (34 :: Tq.wes (l.take (k + 1))) v') := by
        refine ⟨?_, HR.out.2.trans hb4⟩
        rw [HE.out]; exact hown4
      clear hown4 hb4
      go_wp2_with fail
      go_roundw
      case rel => exact ⟨k + 1, by omega, by go_num, N.out⟩
      case measure => simp [intOf]; omega
    · obtain rfl : k = s.size := by omega
      have HK := Lib.hid (show l.take s.size = l by rw [HZ.out, List.take_length])
      have hbr := R.2.size
      clear R hlt
      go_wp2_with (at_builtin; refine wpApp _ rfl (.tmp 23) (.tmp 24) 49 rfl w.heap.size 5 i0 (.int .u8 0) 1 Tryd.underlying49 hi hz0 hz1 hz2 rfl _ (34 :: Tq.wes (l.take s.size)).length (bytV (34 :: Tq.wes (l.take s.size))) rfl (HR.out.1.alloc _) (some ⟨wr.heap.size, 0, none⟩) 1 1 _ [34] rfl rfl (cells_one' 34 34 (by decide)) (fun h => by cases h) (by unfold maxLen; omega) (by omega) (by simp; omega) ?_; intro v3 w3 hown3 hg3 _; have F := WR.of HR.out hown3 hg3; have HF2 := Lib.hid F.2; obtain ⟨A, n, c, S, rfl, hcv, hS⟩ := F.conv; rw [HK.out] at hS; have HSS := Lib.hid hS; clear F hown3 hg3 hS)
      go_ret
      exact ⟨by rw [HSS.out]; rfl, HF2.out⟩
end Go.Proofs.YtpdaelcoiilkkaaDoor
