/- What landed of values: two rows of entries held against one another. -/
import Derived.Test.YtnnlgodgaolkkaaGreatDoorLim
namespace Go.Proofs.YtnnlgodgaolkkaaGreatDoor
open Go.RowKit
namespace Va
set_option maxRecDepth 100000

set_option maxHeartbeats 4000000 in
theorem cmpE_any {l l' : List (Bs × V)} {A A' : Option Addr} {c c' : Nat} (f : (Bs × V) → (Bs × V) → Ordering) (w : World) (hV : Er w (fun _ => True) A l) (hV' : Er w (fun _ => True) A' l') (hn : l.length ≤ 1000000) (hn' : l'.length ≤ 1000000)
    (H : ∀ (i : Nat) (s : Bs) (x : V) (s' : Bs) (y : V) (e e' : En) (w' : World), l[i]? = some (s, x) → l'[i]? = some (s', y) → e.key = s → e'.key = s' → Vm w' e.val x → Vm w' e'.val y → Below w.heap.size w w' → Calls Tryz.prog 56 #[.agg e.enc.toArray, .agg e'.enc.toArray] w' fun r w'' => r = .returned (.int .i64 (oN (f (s, x) (s', y)))) ∧ Below w'.heap.size w' w'') :
    Calls Tryz.prog 54 #[.slice A l.length c, .slice A' l'.length c', .func (.func 56) #[] #[]] w fun e w' => e = .returned (.int .i64 (oN (cmpG f l l'))) ∧ Below w.heap.size w w' := by
  obtain ⟨R, hR⟩ : ∃ R, R = oN (cmpG f l l') := ⟨_, rfl⟩
  rw [← hR]
  obtain ⟨n, HN⟩ : ∃ n, Hid (n = l.length) := ⟨_, Lib.hid rfl⟩
  obtain ⟨n', HN'⟩ : ∃ n, Hid (n = l'.length) := ⟨_, Lib.hid rfl⟩
  rw [← HN.out] at hn ⊢
  rw [← HN'.out] at hn' ⊢
  have HV := Lib.hid hV
  have HV' := Lib.hid hV'
  have HH := Lib.hid H
  have HR := Lib.hid hR
  clear hV hV' H hR
  go_enter Tryz.func54, Tryz.ntmps54
  go_wp2_with fail
  go_loopw [7, 8, 9, 10, 13] (fun _ _ _ _ i wx => Hid (Below w.heap.size w wx) ∧ ∃ k : Nat, k ≤ n ∧ i = .int .i64 k ∧ Hid (oN (cmpG f (l.drop k) (l'.drop k)) = R)) (fun _ _ _ _ i _ => n - (intOf i).toNat)
  case atStart => exact ⟨Lib.hid (Below.refl _ _), 0, Nat.zero_le _, rfl, Lib.hid (by rw [HR.out, List.drop_zero, List.drop_zero])⟩
  case round =>
    obtain ⟨HB, k, hk, rfl, HQ⟩ := hrel
    by_cases hlt : k < n
    · obtain ⟨⟨s, x⟩, hx⟩ := get_lt (l := l) (i := k) (by rw [← HN.out]; exact hlt)
      obtain ⟨g, o, rfl, hg0, hf⟩ := HV.out (by rw [← HN.out]; omega)
      have hg := lt_of_row hg0
      obtain ⟨e1, hek, hvm, hf5⟩ := hf k s x hx
      obtain ⟨d0, d1, d2, d3, d4⟩ := En.five (o := o + k * 5) hf5
      have c0 := cell_old HB.out hg d0
      have c1 := cell_old HB.out hg d1
      have c2 := cell_old HB.out hg d2
      have c3 := cell_old HB.out hg d3
      have c4 := cell_old HB.out hg d4
      obtain ⟨S, hS⟩ : ∃ S, S = txt e1.key := ⟨_, rfl⟩
      rw [← hS] at c0
      by_cases hlt' : k < n'
      · obtain ⟨⟨s', y⟩, hy⟩ := get_lt (l := l') (i := k) (by rw [← HN'.out]; exact hlt')
        obtain ⟨g', o', rfl, hg0', hf'⟩ := HV'.out (by rw [← HN'.out]; omega)
        have hg' := lt_of_row hg0'
        obtain ⟨e2, hek', hvm', hf5'⟩ := hf' k s' y hy
        obtain ⟨d0', d1', d2', d3', d4'⟩ := En.five (o := o' + k * 5) hf5'
        have HB1 := Lib.hid (below_tr HB.out (below_new wr (eO (.string S) (.int .u8 e1.kd) (.string e1.tx) (.slice e1.A e1.n e1.c) (.slice e1.B e1.m e1.d))))
        obtain ⟨T, hT⟩ : ∃ T, T = txt e2.key := ⟨_, rfl⟩
        rw [← hT] at d0'
        have c0' := cell_old HB1.out hg' d0'
        have c1' := cell_old HB1.out hg' d1'
        have c2' := cell_old HB1.out hg' d2'
        have c3' := cell_old HB1.out hg' d3'
        have c4' := cell_old HB1.out hg' d4'
        have HE := Lib.hid (cmpG_drop (f := f) hx hy)
        have CH := Lib.hid (fun (w' : World) (hb : Below w.heap.size w w') => by
          have := HH.out k s x s' y e1 e2 w' hx hy hek hek' (hvm.on hb) (hvm'.on hb) hb
          rw [En.enc, En.enc, ← hS, ← hT] at this
          exact this)
        obtain ⟨z, HZ⟩ : ∃ z, Hid (z = f (s, x) (s', y)) := ⟨_, Lib.hid rfl⟩
        rw [← HZ.out] at HE CH
        clear hg0 hg0' d0 d1 d2 d3 d4 hvm hf hx d0' d1' d2' d3' d4' hvm' hf' hf5 hf5' hy HZ hS hT hek hek'
        go_wp2_with fail
        refine (CH.out _ (below_tr HB1.out (below_new ..))).mono ?_
        rintro e w2 ⟨rfl, hb2⟩
        have HB2 := Lib.hid (below_tr (below_tr HB1.out (below_new ..)) hb2)
        clear hb2 c0 c1 c2 c3 c4 c0' c1' c2' c3' c4'
        cases z with
        | lt =>
          have HF := Lib.hid (show R = -1 from by rw [← HQ.out, HE.out]; rfl)
          clear HQ HE
          show _
          simp only [oN]
          go_wp2_with fail
          go_ret
          exact ⟨ret_int HF.out.symm, HB2.out⟩
        | gt =>
          have HF := Lib.hid (show R = 1 from by rw [← HQ.out, HE.out]; rfl)
          clear HQ HE
          simp only [oN]
          go_wp2_with fail
          go_ret
          exact ⟨ret_int HF.out.symm, HB2.out⟩
        | eq =>
          have HF := Lib.hid (show oN (cmpG f (l.drop (k + 1)) (l'.drop (k + 1))) = R from by rw [← HQ.out, HE.out]; rfl)
          clear HQ HE
          simp only [oN]
          go_wp2_with fail
          go_roundw
          case rel => exact ⟨HB2, k + 1, by omega, by go_num, HF⟩
          case measure => simp [intOf]; omega
      · have HF := Lib.hid (show R = 1 from by rw [← HQ.out, cmpG_gt (by rw [← HN.out]; exact hlt) (by rw [← HN'.out]; omega)]; rfl)
        have HB1 := Lib.hid (below_tr HB.out (below_new wr (eO (.string S) (.int .u8 e1.kd) (.string e1.tx) (.slice e1.A e1.n e1.c) (.slice e1.B e1.m e1.d))))
        clear hg0 d0 d1 d2 d3 d4 hvm hf hf5 hx HQ hS hek
        go_wp2_with fail
        go_ret
        exact ⟨ret_int HF.out.symm, HB1.out⟩
    · have e := cmpG_end (f := f) (l' := l') (show l.length ≤ k by rw [← HN.out]; omega)
      rw [← HN'.out] at e
      obtain rfl : k = n := by omega
      by_cases h9 : k < n'
      · have HF := Lib.hid (show R = -1 from by rw [← HQ.out, e, if_pos h9]; rfl)
        have h8 : (k : Int) < (n' : Int) := by omega
        clear HQ e
        go_wp2_with fail
        go_ret
        exact ⟨ret_int HF.out.symm, HB.out⟩
      · have HF := Lib.hid (show R = 0 from by rw [← HQ.out, e, if_neg h9]; rfl)
        have h8 : ¬ (k : Int) < (n' : Int) := by omega
        clear HQ e
        go_wp2_with fail
        go_ret
        exact ⟨ret_int HF.out.symm, HB.out⟩
end Va
end Go.Proofs.YtnnlgodgaolkkaaGreatDoor
