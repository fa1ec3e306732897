/- What landed: a text split; read. -/
import Derived.Test.YtbeefjhcbphiaaaGreatDoorGk
import Derived.Test.YtbeefjhcbphiaaaGreatDoorGm
import Derived.Test.YtbeefjhcbphiaaaGreatDoorGd
namespace Go.Proofs.YtbeefjhcbphiaaaGreatDoor
open Go.RowKit
namespace Fl
open De

/-- The parts lie in W's next block; nothing that W had has turned. -/
def FW (W w : World) (m a p e : ByteArray) : Prop := Below W.heap.size W w ∧ w.heap[W.heap.size]? = some (wo m a p e)
section
variable {W w w' : World} {m a p e x : ByteArray}
theorem FW.start : FW W (W.alloc (wo m a p e)) m a p e := ⟨(Below.refl _ _).alloc (Nat.le_refl _) _, by show (W.heap.push _)[W.heap.size]? = _; simp⟩
theorem FW.below (h : FW W w m a p e) (hb : Below w.heap.size w w') : FW W w' m a p e := ⟨II.below_tr h.1 hb, by rw [hb.block _ (lt_of_block h.2)]; exact h.2⟩
theorem FW.cells (h : FW W w m a p e) : w.cell? ⟨W.heap.size, 0, none⟩ = some (.string m) ∧ w.cell? ⟨W.heap.size, 1, none⟩ = some (.string a) ∧ w.cell? ⟨W.heap.size, 2, none⟩ = some (.string p) ∧ w.cell? ⟨W.heap.size, 3, none⟩ = some (.string e) ∧ (w.frozen? ⟨W.heap.size, 0, none⟩ = false ∧ w.frozen? ⟨W.heap.size, 1, none⟩ = false ∧ w.frozen? ⟨W.heap.size, 2, none⟩ = false ∧ w.frozen? ⟨W.heap.size, 3, none⟩ = false) := by
  obtain ⟨_, h⟩ := h
  simp [World.cell?, World.frozen?, h]
theorem FW.set0 (h : FW W w m a p e) : FW W (w.setCell ⟨W.heap.size, 0, none⟩ (.string x)) x a p e :=
  ⟨h.1.setCell (Nat.le_refl _) _, by rw [heap_setCell_same w W.heap.size 0 _ _ (.string x) h.2]; rfl⟩
theorem FW.set1 (h : FW W w m a p e) : FW W (w.setCell ⟨W.heap.size, 1, none⟩ (.string x)) m x p e :=
  ⟨h.1.setCell (Nat.le_refl _) _, by rw [heap_setCell_same w W.heap.size 1 _ _ (.string x) h.2]; rfl⟩
theorem FW.set2 (h : FW W w m a p e) : FW W (w.setCell ⟨W.heap.size, 2, none⟩ (.string x)) m a x e :=
  ⟨h.1.setCell (Nat.le_refl _) _, by rw [heap_setCell_same w W.heap.size 2 _ _ (.string x) h.2]; rfl⟩
theorem FW.set3 (h : FW W w m a p e) : FW W (w.setCell ⟨W.heap.size, 3, none⟩ (.string x)) m a p x :=
  ⟨h.1.setCell (Nat.le_refl _) _, by rw [heap_setCell_same w W.heap.size 3 _ _ (.string x) h.2]; rfl⟩
end
theorem ct_e (t : List UInt8) : ctA t [101, 69] = t.takeWhile (fun x => !isE x) ∧ ctB t [101, 69] = t.dropWhile (fun x => !isE x) := by
  have e : (fun x : UInt8 => !([101, 69] : List UInt8).contains x) = fun x => !isE x := by
    funext x
    show (!List.elem x [101, 69]) = !isE x
    unfold isE
    simp only [List.elem]
    cases (x == 101) <;> cases (x == 69) <;> rfl
  unfold ctA ctB
  rw [e]; exact ⟨rfl, rfl⟩
theorem ct_p (t : List UInt8) : ctA t [46] = t.takeWhile (fun x => x != 46) ∧ ctB t [46] = t.dropWhile (fun x => x != 46) := by
  have e : (fun x : UInt8 => !([46] : List UInt8).contains x) = fun x => x != 46 := by
    funext x
    show (!List.elem x [46]) = !(x == 46)
    simp only [List.elem]
    cases (x == 46) <;> rfl
  unfold ctA ctB
  rw [e]; exact ⟨rfl, rfl⟩
set_option maxHeartbeats 4000000 in
set_option maxRecDepth 100000 in
theorem split_is {l : List UInt8} {s M A B C : ByteArray} {x : Bool} (w : World) (hs : s = txt l) (hl : l.length ≤ 80000) (hM : M = txt (mn l)) (hA : A = txt (cw (l.drop (sg0 l))).1) (hB : B = txt (cw (l.drop (sg0 l))).2.1) (hC : C = txt (cw (l.drop (sg0 l))).2.2)
    (hx : x = sndP (cw (l.drop (sg0 l))).1 (cw (l.drop (sg0 l))).2.1 (cw (l.drop (sg0 l))).2.2) (hT : II.Tab w) :
    Calls Tryz.prog 161 #[.string s] w fun e w' => e = .returned (.tuple #[if x = true then wv M A B C else wv ⟨#[]⟩ ⟨#[]⟩ ⟨#[]⟩ ⟨#[]⟩, .bool x]) ∧ Below w.heap.size w w' := by
  obtain ⟨t, ht⟩ : ∃ t, t = l.drop (sg0 l) := ⟨_, rfl⟩
  have htl : t.length ≤ 80000 := by rw [ht, List.length_drop]; omega
  rw [← ht] at hA hB hC hx
  have h2 := cw_two t
  have ha := cw_app t
  obtain ⟨T, hTT⟩ : ∃ T, T = txt t := ⟨_, rfl⟩
  obtain ⟨T2, hT2⟩ : ∃ T, T = txt (ctA t [101, 69]) := ⟨_, rfl⟩
  have CS := Lib.hid (fun w => signed_is (T := T) w hs hM (by rw [hTT, ht]))
  have C1 := Lib.hid (fun w => cut_is (m := [101, 69]) (M := ⟨#[101, 69]⟩) (A := T2) (B := C) w hTT rfl (by omega) (by decide) (by decide) (by decide) hT2 (by rw [hC, h2, (ct_e t).2]))
  have hl2 : (ctA t [101, 69]).length ≤ 80000 := by
    have := congrArg List.length (ct_app t [101, 69])
    rw [List.length_append] at this
    omega
  have C2 := Lib.hid (fun w => cut_is (m := [46]) (M := ⟨#[46]⟩) (A := A) (B := B) w hT2 rfl (by omega) (by decide) (by decide) (by decide) (by rw [hA, h2, (ct_p _).1, (ct_e t).1]) (by rw [hB, h2, (ct_p _).2, (ct_e t).1]))
  have CX := Lib.hid (fun w h => sound_is (M := M) (x := x) w hA hB hC (by have := congrArg List.length ha; simp only [List.length_append] at this; omega) hx h)
  have HT := Lib.hid hT
  clear hs hl hM hA hB hC hx hT ht htl h2 ha hTT hT2 hl2
  go_enter Tryz.func161, Tryz.ntmps161
  go_wp2_with (go_at_call 181; refine (CS.out _).mono ?_; rintro e w' ⟨rfl, rfl⟩)
  refine (C1.out _).mono ?_
  rintro e w1 ⟨rfl, hb⟩
  have P1 := Lib.hid (FW.start.below hb)
  clear hb
  obtain ⟨c0, c1, c2, c3, f0, f1, f2, f3⟩ := P1.out.cells
  have P2 := Lib.hid (P1.out.set3 (x := C))
  go_wp2_with fail
  clear c0 c1 c2 c3 f0 f1 f2 f3
  refine (C2.out _).mono ?_
  rintro e w2 ⟨rfl, hb⟩
  have P3 := Lib.hid (P2.out.below hb)
  clear hb
  obtain ⟨c0, c1, c2, c3, f0, f1, f2, f3⟩ := P3.out.cells
  have P4 := Lib.hid (P3.out.set1 (x := A))
  have P5 := Lib.hid (P4.out.set2 (x := B))
  obtain ⟨e0, e1, e2, e3, -⟩ := P5.out.cells
  go_wp2_with fail
  clear c0 c1 c2 c3 f0 f1 f2 f3 e0 e1 e2 e3
  refine (CX.out _ (HT.out.below P5.out.1)).mono ?_
  rintro e w3 ⟨rfl, hb⟩
  have P6 := Lib.hid (P5.out.below hb)
  clear hb
  obtain ⟨c0, c1, c2, c3, f0, f1, f2, f3⟩ := P6.out.cells
  cases x
  · have P7 := Lib.hid ((((P6.out.set0 (x := ⟨#[]⟩)).set1 (x := ⟨#[]⟩)).set2 (x := ⟨#[]⟩)).set3 (x := ⟨#[]⟩))
    go_wp2_with fail
    refine bodyPost_ret (v := .tuple #[wv ⟨#[]⟩ ⟨#[]⟩ ⟨#[]⟩ ⟨#[]⟩, .bool false]) (by simp [results, Tryz.results161, go_sem, *]) rfl ?_
    exact ⟨rfl, P7.out.1⟩
  · have P7 := Lib.hid ((((P6.out.set0 (x := M)).set1 (x := A)).set2 (x := B)).set3 (x := C))
    go_wp2_with fail
    refine bodyPost_ret (v := .tuple #[wv M A B C, .bool true]) (by simp [results, Tryz.results161, go_sem, *]) rfl ?_
    exact ⟨rfl, P7.out.1⟩
end Fl
end Go.Proofs.YtbeefjhcbphiaaaGreatDoor
/- What landed: read, is it a normal form, does one stand ahead; the document's words on these. -/
namespace Go.Proofs.YtbeefjhcbphiaaaGreatDoor
open Go.RowKit
namespace Fl
open De

theorem mn_len (l : List UInt8) : (mn l).length ≤ 1 := by unfold mn; split <;> simp
theorem ret_tc {a b : ByteArray} {p q : Int} (h : a = b) (h' : p = q) : Ending.returned (.tuple #[.string a, .int .i64 p]) = .returned (.tuple #[.string b, .int .i64 q]) := by rw [h, h']

/-- What the laws find when they are called. -/
structure AllT (w : World) : Prop where
  dec : Tab w
  int : II.Tab w
  max : MxL w
theorem AllT.below {W w : World} (h : AllT W) (hb : Below W.heap.size W w) : AllT w := ⟨h.dec.on hb, h.int.below hb, h.max.below hb⟩
theorem spt_yes {l : List UInt8} (h : spb l = true) : rdF l = (spt l, 0) := by
  unfold spb at h
  have h := of_decide_eq_true h
  unfold rdF spt
  by_cases h1 : l.drop (sg0 l) = INF
  · rw [if_pos h1, if_pos h1]
  · rw [if_neg h1, if_neg h1]
    rcases h with h | h
    · exact absurd h h1
    · rw [if_pos h, if_pos h]
theorem spt_no {l : List UInt8} (h : spb l = false) : rdF l = if sndP (cw (l.drop (sg0 l))).1 (cw (l.drop (sg0 l))).2.1 (cw (l.drop (sg0 l))).2.2 = true then rd (mn l ++ st (l.drop (sg0 l))) else ([], 3) := by
  unfold spb at h
  have h := of_decide_eq_false h
  have h1 : l.drop (sg0 l) ≠ INF := fun e => h (.inl e)
  have h2 : l.drop (sg0 l) ≠ NAN := fun e => h (.inr e)
  unfold rdF
  rw [if_neg h1, if_neg h2, ← shp_is]; rfl
theorem st_mn (l : List UInt8) : st (mn l) = mn l := by unfold mn; split <;> rfl
set_option maxHeartbeats 4000000 in
set_option maxRecDepth 100000 in
theorem fread_is {l : List UInt8} {s : ByteArray} (w : World) (hs : s = txt l) (hl : l.length ≤ 80000) (hT : AllT w) :
    Calls Tryz.prog 145 #[.string s] w fun e w' => e = .returned (.tuple #[.string (txt (rdF l).1), .int .i64 (rdF l).2]) ∧ Below w.heap.size w w' := by
  obtain ⟨X, hX⟩ : ∃ X, X = txt (spt l) := ⟨_, rfl⟩
  obtain ⟨b, hb⟩ : ∃ b, b = spb l := ⟨_, rfl⟩
  have CS := Lib.hid (fun w => special_is w hs hX hb)
  have HT := Lib.hid hT
  cases b
  · have E := spt_no hb.symm
    obtain ⟨M, hM⟩ : ∃ M, M = txt (mn l) := ⟨_, rfl⟩
    obtain ⟨A, hA⟩ : ∃ A, A = txt (cw (l.drop (sg0 l))).1 := ⟨_, rfl⟩
    obtain ⟨B, hB⟩ : ∃ B, B = txt (cw (l.drop (sg0 l))).2.1 := ⟨_, rfl⟩
    obtain ⟨C, hC⟩ : ∃ C, C = txt (cw (l.drop (sg0 l))).2.2 := ⟨_, rfl⟩
    obtain ⟨x, hx⟩ : ∃ x, x = sndP (cw (l.drop (sg0 l))).1 (cw (l.drop (sg0 l))).2.1 (cw (l.drop (sg0 l))).2.2 := ⟨_, rfl⟩
    have CP := Lib.hid (fun w h => split_is w hs hl hM hA hB hC hx h)
    have ha := cw_app (l.drop (sg0 l))
    rw [← hx] at E
    have hml := mn_len l
    have htl : (l.drop (sg0 l)).length ≤ 80000 := by rw [List.length_drop]; omega
    cases x
    · rw [if_neg (by simp)] at E
      have HE := Lib.hid E
      clear hs hl hT hX hb E hM hA hB hC hx ha hml htl
      go_enter Tryz.func145, Tryz.ntmps145
      go_wp2_with (go_at_call 160; refine (CS.out _).mono ?_; rintro e w' ⟨rfl, rfl⟩)
      refine (CP.out _ HT.out.int).mono ?_
      rintro e w1 ⟨rfl, hb⟩
      have HB := Lib.hid hb
      clear hb
      go_wp2_with fail
      go_ret2
      exact ⟨ret_tc (by rw [HE.out]; rfl) (by rw [HE.out]), HB.out.alloc HB.out.size _⟩
    · rw [if_pos rfl] at E
      obtain ⟨T, hTT⟩ : ∃ T, T = txt (mn l ++ st (l.drop (sg0 l))) := ⟨_, rfl⟩
      have CN := Lib.hid (fun w h => number_is (T := T) w hM hA hB hC (by have := congrArg List.length ha; simp only [List.length_append] at this; omega) (by rw [hTT, ha, st_app, st_mn]) h)
      have CD := Lib.hid (fun w h => dread_any (l := mn l ++ st (l.drop (sg0 l))) (s := T) w h hTT (by have := st_len (l.drop (sg0 l)); rw [List.length_append]; omega))
      rw [← E] at CD
      generalize rdF l = R at *
      clear hs hl hT hX hb E hM hA hB hC hx ha hml htl hTT
      go_enter Tryz.func145, Tryz.ntmps145
      go_wp2_with (go_at_call 160; refine (CS.out _).mono ?_; rintro e w' ⟨rfl, rfl⟩)
      refine (CP.out _ HT.out.int).mono ?_
      rintro e w1 ⟨rfl, hb⟩
      have HB := Lib.hid hb
      clear hb
      have HB1 := Lib.hid (HB.out.alloc HB.out.size (wo M A B C))
      rw [if_pos trivial]
      go_wp2_with fail
      refine (CN.out _ (HT.out.max.below HB1.out)).mono ?_
      rintro e w2 ⟨rfl, hb⟩
      have HB2 := Lib.hid (II.below_tr HB1.out hb)
      clear hb
      go_wp2_with fail
      refine (CD.out _ (HT.out.dec.on HB2.out)).mono ?_
      rintro e w3 ⟨rfl, hb⟩
      have HB3 := Lib.hid (II.below_tr HB2.out hb)
      clear hb
      go_wp2_with fail
      go_ret2
      exact ⟨rfl, HB3.out⟩
  · have E := Lib.hid (spt_yes hb.symm)
    have HX := Lib.hid hX
    clear hs hl hT hX hb
    go_enter Tryz.func145, Tryz.ntmps145
    go_wp2_with (go_at_call 160; refine (CS.out _).mono ?_; rintro e w' ⟨rfl, rfl⟩)
    go_ret2
    exact ⟨ret_tc (by rw [E.out, HX.out]) (by rw [E.out]), Below.refl _ _⟩
end Fl
end Go.Proofs.YtbeefjhcbphiaaaGreatDoor
