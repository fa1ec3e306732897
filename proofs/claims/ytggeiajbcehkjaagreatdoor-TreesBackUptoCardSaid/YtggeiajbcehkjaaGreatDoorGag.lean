/- What landed: goOn, leaf. -/
import Derived.Test.YtggeiajbcehkjaaGreatDoorGaf
import Derived.OwnWalk
namespace Go.Proofs.YtggeiajbcehkjaaGreatDoor
open Go.RowKit
namespace Jt
section
variable {w : World} {P : Nat} {bv sv nv : Value} {wd : Nat} {sk : List (Nat × Bool)} {lab : Nat → Own} {op : Nat → Prop} {mb : Nat → Nat} {ks : Nat → List Bs} {X : List Nx}
theorem bset {w0 : World} (h : Below P w0 w) (r : Nat) (u : Value) : Below P w0 (w.setCell ⟨P, r, none⟩ u) := h.setCell (Nat.le_refl _) u
/-- Of what is nobody's, and no cell of the parser's, nothing has turned. -/
def Fr (lab : Nat → Own) (P : Nat) (w w' : World) : Prop := ∀ b, b < w.heap.size → b ≠ P → lab b = .no → w'.heap[b]? = w.heap[b]?
theorem Fr.of {w' : World} (h : Below w.heap.size w w') : Fr lab P w w' := fun b hb _ _ => h.block b hb
theorem Fr.on {w1 w' : World} {lab1 : Nat → Own} (h : Fr lab P w w1) (hs : w.heap.size ≤ w1.heap.size) (hl : ∀ b, b < w.heap.size → lab1 b = lab b) (h2 : Fr lab1 P w1 w') : Fr lab P w w' :=
  fun b hb hP hn => (h2 b (Nat.lt_of_lt_of_le hb hs) hP ((hl b hb).trans hn)).trans (h b hb hP hn)
theorem Fr.set {w1 : World} (h : Fr lab P w w1) (r : Nat) (u : Value) : Fr lab P w (w1.setCell ⟨P, r, none⟩ u) := fun b hb hP hn => (heap_setCell_other _ _ _ _ hP).trans (h b hb hP hn)
/-- What add asks of the tree: the innermost one is there, and not too long. -/
def AddOk (sk : List (Nat × Bool)) (X : List Nx) : Prop := sk.length ≤ 256 ∧ X.length ≤ 1000000 ∧ ∀ a m S, sk = (a, m) :: S → ∃ x, X[a]? = some x ∧ x.nd.subs.length ≤ 1000000
theorem add_any {k f t : Nat} {kd : Nat} {T : Bs} (h : PM w P bv wd sk lab op mb ks sv nv X) (ha : AddOk sk X) {S : ByteArray} (hS : S = txt T) {yd : Int} (hyd : yd = kd) :
    Calls Tryz.prog 175 #[.pointer (some ⟨P, 0, none⟩), .agg #[.int .u8 (k : Nat), .int .i64 (f : Nat), .int .i64 (t : Nat)], .int .u8 yd, .string S] w
      (AddL w P bv wd sk lab op mb ks sv X ⟨kd, T, [], [], [], (f, t)⟩) := by
  subst hS; subst hyd
  cases sk with
  | nil => exact add_nil h ha.2.1
  | cons p S =>
    obtain ⟨a, m⟩ := p
    obtain ⟨x, hx, hs⟩ := ha.2.2 a m S rfl
    exact add_on h (by have := ha.1; simp at this; omega) (List.getElem?_eq_some_iff.1 hx).1 ha.2.1 hx hs
theorem goOn_any (h : PM w P bv wd sk lab op mb ks sv nv X) : Calls Tryz.prog 176 #[.pointer (some ⟨P, 0, none⟩)] w fun e w' => e = .returned (.tuple #[]) ∧ PM w' P bv (goW sk) sk lab op mb ks sv nv X ∧ Below P w w' ∧ Fr lab P w w' := by
  obtain ⟨sA, sc, e, _⟩ := (Rr.of_own h.stk).shape
  have hP := h.lt
  cases sk with
  | nil =>
    subst e
    refine (goOn_nil w sA sc h.po).mono ?_
    rintro e w' ⟨rfl, rfl⟩
    exact ⟨rfl, h.want 0, bset (Below.refl _ _) _ _, (Fr.of (Below.refl _ _)).set _ _⟩
  | cons p S =>
    subst e
    refine (goOn_on w sA _ sc (Nat.succ_pos _) h.po).mono ?_
    rintro e w' ⟨rfl, rfl⟩
    exact ⟨rfl, (h.want 0).want 24, bset (bset (Below.refl _ _) _ _) _ _, ((Fr.of (Below.refl _ _)).set _ _).set _ _⟩
/-- What leaf leaves. -/
def LeafL (w : World) (P : Nat) (bv : Value) (wd : Nat) (sk : List (Nat × Bool)) (lab : Nat → Own) (op : Nat → Prop) (mb : Nat → Nat) (ks : Nat → List Bs) (sv : Value) (X : List Nx) (n0 : Nd) (e : Ending) (w' : World) : Prop :=
  e = .returned (.tuple #[]) ∧ Below P w w' ∧ Fr lab P w w' ∧ ∃ lab' nv' X', PM w' P bv wd sk lab' (fun i => op i ∨ i = X.length) mb ks sv nv' X' ∧ X'.map Nx.nd = topSub sk (X.map Nx.nd) ++ [n0]
theorem leaf_any {k f t : Nat} {kd : Nat} {T : Bs} (h : PM w P bv wd sk lab op mb ks sv nv X) (ha : AddOk sk X) {S : ByteArray} (hS : S = txt T) {yd : Int} (hyd : yd = kd) :
    Calls Tryz.prog 143 #[.pointer (some ⟨P, 0, none⟩), .agg #[.int .u8 (k : Nat), .int .i64 (f : Nat), .int .i64 (t : Nat)], .int .u8 yd, .string S] w
      (LeafL w P bv (goW sk) sk lab op mb ks sv X ⟨kd, T, [], [], [], (f, t)⟩) := by
  obtain ⟨w1, hw1⟩ : ∃ w1, w1 = w.alloc (.cells #[.int .u8 (k : Nat), .int .i64 (f : Nat), .int .i64 (t : Nat)] 145) := ⟨_, rfl⟩
  have hb1 : Below w.heap.size w w1 := by rw [hw1]; exact (Below.refl _ _).alloc (Nat.le_refl _) _
  have C := Lib.hid (add_any (k := k) (f := f) (t := t) (h.below hb1) ha hS hyd)
  have HB := Lib.hid (hb1.mono (Nat.le_of_lt h.lt))
  have HB0 := Lib.hid hb1
  clear h ha hS hyd hb1
  go_enter Tryz.func143, Tryz.ntmps143
  go_wp2_with fail
  rw [← hw1]
  refine C.out.mono ?_
  rintro e w2 ⟨rfl, hb2, lab', nv', X', hM, hX, hl2, hno2⟩
  have HF2 := Lib.hid ((Fr.of HB0.out).on HB0.out.size (fun _ _ => rfl) (show Fr lab P w1 w2 from hno2))
  have HL2 := Lib.hid hl2
  have HSZ := Lib.hid (Nat.le_trans HB0.out.size hb2.size)
  have G := Lib.hid (goOn_any hM)
  have HB2 := Lib.hid (HB.out.trans hb2)
  have HX := Lib.hid hX
  clear hb2 hX hM C hl2 hno2
  go_wp2_with fail
  refine G.out.mono ?_
  rintro e w3 ⟨rfl, hM3, hb3, hf3⟩
  go_wp2_with fail
  refine bodyPost_end (results_none rfl _ _ _) rfl ?_
  exact ⟨rfl, HB2.out.trans hb3, HF2.out.on HSZ.out (fun b hb => HL2.out b (Nat.lt_of_lt_of_le hb HB0.out.size)) hf3, _, _, _, hM3, HX.out⟩
section
variable {A : Option Addr} {N c : Nat}
theorem clip_str (w : World) (hNc : N ≤ c) (hcm : c ≤ maxLen) (hnil : A = none → c = 0) : Calls Tryz.prog 107 #[.slice A N c] w fun e w' => e = .returned (.slice A N N) ∧ w = w' := by
  unfold maxLen at hcm
  cases A with
  | none =>
    obtain rfl := hnil rfl
    obtain rfl : N = 0 := by omega
    go_enter Tryz.func107, Tryz.ntmps107
    go_wp2_with fail
    go_ret
    exact ⟨rfl, rfl⟩
  | some a =>
    clear hnil
    go_enter Tryz.func107, Tryz.ntmps107
    go_wp2_with fail
    go_ret
    exact ⟨rfl, rfl⟩
theorem clip_span (w : World) (hNc : N ≤ c) (hcm : c ≤ maxLen) (hnil : A = none → c = 0) : Calls Tryz.prog 108 #[.slice A N c] w fun e w' => e = .returned (.slice A N N) ∧ w = w' := by
  unfold maxLen at hcm
  cases A with
  | none =>
    obtain rfl := hnil rfl
    obtain rfl : N = 0 := by omega
    go_enter Tryz.func108, Tryz.ntmps108
    go_wp2_with fail
    go_ret
    exact ⟨rfl, rfl⟩
  | some a =>
    clear hnil
    go_enter Tryz.func108, Tryz.ntmps108
    go_wp2_with fail
    go_ret
    exact ⟨rfl, rfl⟩
theorem clip_int (w : World) (hNc : N ≤ c) (hcm : c ≤ maxLen) (hnil : A = none → c = 0) : Calls Tryz.prog 109 #[.slice A N c] w fun e w' => e = .returned (.slice A N N) ∧ w = w' := by
  unfold maxLen at hcm
  cases A with
  | none =>
    obtain rfl := hnil rfl
    obtain rfl : N = 0 := by omega
    go_enter Tryz.func109, Tryz.ntmps109
    go_wp2_with fail
    go_ret
    exact ⟨rfl, rfl⟩
  | some a =>
    clear hnil
    go_enter Tryz.func109, Tryz.ntmps109
    go_wp2_with fail
    go_ret
    exact ⟨rfl, rfl⟩
theorem clip_node (w : World) (hNc : N ≤ c) (hcm : c ≤ maxLen) (hnil : A = none → c = 0) : Calls Tryz.prog 76 #[.slice A N c] w fun e w' => e = .returned (.slice A N N) ∧ w = w' := by
  unfold maxLen at hcm
  cases A with
  | none =>
    obtain rfl := hnil rfl
    obtain rfl : N = 0 := by omega
    go_enter Tryz.func76, Tryz.ntmps76
    go_wp2_with fail
    go_ret
    exact ⟨rfl, rfl⟩
  | some a =>
    clear hnil
    go_enter Tryz.func76, Tryz.ntmps76
    go_wp2_with fail
    go_ret
    exact ⟨rfl, rfl⟩
end
end
end Jt
end Go.Proofs.YtggeiajbcehkjaaGreatDoor
/- What landed: begin. -/
namespace Go.Proofs.YtggeiajbcehkjaaGreatDoor
open Go.RowKit
namespace Jt
section
variable {w : World} {P : Nat} {bv sv nv : Value} {wd : Nat} {sk : List (Nat × Bool)} {lab : Nat → Own} {op : Nat → Prop} {mb : Nat → Nat} {ks : Nat → List Bs} {X : List Nx}
theorem PM.relabel {lab' : Nat → Own} (h : PM w P bv wd sk lab op mb ks sv nv X) (hl : ∀ k, k < w.heap.size → lab' k = lab k) : PM w P bv wd sk lab' op mb ks sv nv X :=
  h.turn h.obj (h.nt.keep (fun _ _ _ _ => rfl) hl fun _ h => h) (fun _ _ _ _ => rfl) hl h.op
/-- What a step leaves: the parser's memory at what is known then; or a fault. -/
def Step (w : World) (P : Nat) (bv : Value) (lab : Nat → Own) (r : SR) (e : Ending) (w' : World) : Prop :=
  Below P w w' ∧ match r with
  | .bad c a => e = .panicked [{ v := FV (c : Nat) (a : Nat), recovered := false }]
  | .ok s => e = .returned (.tuple #[]) ∧ Fr lab P w w' ∧ ∃ lab' op' mb' ks' sv' nv' X', PM w' P bv s.wd s.sk lab' op' mb' ks' sv' nv' X' ∧ X'.map Nx.nd = s.nd ∧ ∀ a, (a, true) ∈ s.sk → ks' a = keysAt s.nd a
/-- What is known of the state: it is as the parser can be. -/
structure Wf (n : Nat) (s : St) : Prop where
  wd : s.wd < 32
  at_ : ∀ p ∈ s.sk, p.1 < s.nd.length
  once : (s.sk.map Prod.fst).Nodup
  deep : s.sk.length ≤ 256
  top : s.wd ≠ 0 → s.wd ≠ 1 → s.sk ≠ []
  key : s.wd &&& 2 ≠ 0 → ∃ a S, s.sk = (a, true) :: S
  few : s.nd.length ≤ n ∧ ∀ x ∈ s.nd, x.keys.length ≤ n ∧ x.spots.length ≤ n ∧ x.subs.length ≤ n
theorem keysAt_top {X : List Nd} {b : Nat} {n0 : Nd} {S : List (Nat × Bool)} (h : b < X.length) : keysAt (topSub S X ++ [n0]) b = keysAt X b := by
  unfold keysAt
  rw [List.getElem?_append_left (by rw [topSub_len]; exact h)]
  cases S with
  | nil => rfl
  | cons p S =>
    show (match (X.modify p.1 (Nd.addSub X.length))[b]? with | some x => x.keys | none => []) = _
    rw [List.getElem?_modify]
    cases X[b]? with
    | none => rfl
    | some x => show Nd.keys (if p.1 = b then _ else x) = x.keys; split <;> rfl
theorem Step.bad {w' : World} {r : SR} {c a : Nat} {e : Ending} (hb : Below P w w') (hr : r = .bad c a) (he : e = .panicked [{ v := FV (c : Nat) (a : Nat), recovered := false }]) : Step w P bv lab r e w' := by
  subst hr; exact ⟨hb, he⟩
theorem Step.ok {w' : World} {r : SR} {s : St} {e : Ending} {lab' : Nat → Own} {op' : Nat → Prop} {mb' : Nat → Nat} {ks' : Nat → List Bs} {sv' nv' : Value} {X' : List Nx} (hb : Below P w w') (hr : r = .ok s) (he : e = .returned (.tuple #[]))
    (h : PM w' P bv s.wd s.sk lab' op' mb' ks' sv' nv' X') (hX : X'.map Nx.nd = s.nd) (hK : ∀ a, (a, true) ∈ s.sk → ks' a = keysAt s.nd a) (hf : Fr lab P w w') : Step w P bv lab r e w' := by
  subst hr; exact ⟨hb, he, hf, _, _, _, _, _, _, _, h, hX, hK⟩
theorem skC_shape (mb : Nat → Nat) (p : Nat × Bool) : ∃ tn pv, skC mb p = .iface tn pv := by
  obtain ⟨a, m⟩ := p
  cases m <;> exact ⟨_, _, rfl⟩
theorem Wf.addOk {s : St} {n : Nat} (hw : Wf n s) (hn : n ≤ 1000000) (hX : X.map Nx.nd = s.nd) : AddOk s.sk X := by
  have hl : X.length = s.nd.length := by rw [← hX, List.length_map]
  refine ⟨hw.deep, by rw [hl]; exact Nat.le_trans hw.few.1 hn, fun a m S e => ?_⟩
  have ha : a < X.length := by rw [hl]; exact hw.at_ (a, m) (by rw [e]; exact List.mem_cons_self ..)
  refine ⟨X[a], List.getElem?_eq_getElem ha, Nat.le_trans (hw.few.2 _ ?_).2.2 hn⟩
  rw [← hX]
  exact List.mem_map_of_mem (List.getElem_mem ha)
theorem Wf.notIn {s : St} {n : Nat} (hw : Wf n s) : ∀ m, (s.nd.length, m) ∉ s.sk := fun m h => by have := hw.at_ _ h; simp at this
set_option maxRecDepth 100000 in
set_option maxHeartbeats 4000000 in
theorem begin_any {s : St} {b k f t nn : Nat} {m : Bool} (h : PM w P bv s.wd s.sk lab op mb ks sv nv X) (hX : X.map Nx.nd = s.nd) (hK : ∀ a, (a, true) ∈ s.sk → ks a = keysAt s.nd a) (hw : Wf nn s) (hnn : nn ≤ 1000000)
    (hm : m = true → P + 1 ≤ b ∧ lab b = .no ∧ b < w.heap.size ∧ w.ownsMap Tryz.prog 9 unitElem b 0 (setK [])) {ov : Value} (ho : ov = skC (fun _ => b) (s.nd.length, m)) {yk : Int} (hyk : yk = kdM m) :
    Calls Tryz.prog 137 #[.pointer (some ⟨P, 0, none⟩), .agg #[.int .u8 (k : Nat), .int .i64 (f : Nat), .int .i64 (t : Nat)], .int .u8 yk, ov] w (Step w P bv lab (s.begin_ (k, f, t) m)) := by
  subst hyk
  obtain ⟨i0, hi, hz0, hz1, hz2⟩ := info_parts (show (Tryz.prog.info? 190).map (fun i => (i.zero, i.size, i.bytes)) = some (some .nilIface, 1, 16) by kernel_rfl)
  obtain ⟨w1, hw1⟩ : ∃ w1, w1 = w.alloc (.cells #[.int .u8 (k : Nat), .int .i64 (f : Nat), .int .i64 (t : Nat)] 145) := ⟨_, rfl⟩
  have hb1 : Below w.heap.size w w1 := by rw [hw1]; exact (Below.refl _ _).alloc (Nat.le_refl _) _
  have hl1 : w.heap.size < w1.heap.size := by rw [hw1]; simp
  have HM1 := Lib.hid (h.below hb1)
  have HB1 := Lib.hid hb1
  have hP := h.lt
  have HP := Lib.hid hP
  have t0 : ∀ wx, Below w1.heap.size w1 wx → wx.cell? ⟨w.heap.size, 0, none⟩ = some (.int .u8 (k : Nat)) ∧ wx.cell? ⟨w.heap.size, 1, none⟩ = some (.int .i64 (f : Nat)) ∧ wx.cell? ⟨w.heap.size, 2, none⟩ = some (.int .i64 (t : Nat)) := fun wx hb => by
    refine ⟨(hb.cell (by exact hl1)).trans ?_, (hb.cell (by exact hl1)).trans ?_, (hb.cell (by exact hl1)).trans ?_⟩ <;> (rw [hw1]; simp [go_sem])
  have HT := Lib.hid t0
  obtain ⟨sA, sc, esv, hsc, hsc6, _⟩ := (Rr.of_own h.stk).shape
  subst esv
  obtain ⟨n, hn⟩ : ∃ n, n = s.sk.length := ⟨_, rfl⟩
  obtain ⟨tn, pv, hsh⟩ := skC_shape (fun _ => b) (s.nd.length, m)
  rw [hsh] at ho
  subst ho
  have WI := Lib.hid (fun w => hsh ▸ within_is (fun _ => b) s.nd.length m (y := (firstM m : Nat)) (z := enM m) rfl rfl w)
  have hor : bits .or .u8 ((firstM m : Nat) : Int) 16 = ((firstM m + 16 : Nat) : Int) := by cases m <;> decide +kernel
  obtain ⟨yf, hyf⟩ : ∃ yf : Int, yf = ((firstM m : Nat) : Int) := ⟨_, rfl⟩
  obtain ⟨yw, hyw⟩ : ∃ yw : Int, yw = ((firstM m + 16 : Nat) : Int) := ⟨_, rfl⟩
  rw [← hyf] at hor WI
  rw [← hyw] at hor
  have HYW := Lib.hid hyw
  have HSH := Lib.hid hsh
  have HH := Lib.hid h
  have HWF := Lib.hid hw
  have HX := Lib.hid hX
  have HK := Lib.hid hK
  have HMM := Lib.hid hm
  have HN := Lib.hid hn
  have hnd := hw.deep
  have hwd := hw.wd
  have HWD := Lib.hid hwd
  rw [← hn] at hnd
  have HC := Lib.hid (And.intro hsc hsc6)
  clear hsc hsc6 hsh hX hK hw hm h hb1 hn hyf hyw t0 hwd hP
  obtain ⟨r, hr⟩ : ∃ r, r = s.begin_ (k, f, t) m := ⟨_, rfl⟩
  rw [← hr]
  have HR := Lib.hid hr
  clear hr
  go_enter Tryz.func137, Tryz.ntmps137
  by_cases hb : s.wd &&& 1 = 0
  · have C := Lib.hid (need_no (b := 1) (y := 1) (k := (k : Nat)) (f := (f : Nat)) (t := (t : Nat)) w1 HM1.out.po (by have := HWD.out; omega) (by decide) hb rfl)
    have R := Lib.hid (HR.out.trans (show s.begin_ (k, f, t) m = .bad 3 f by unfold St.begin_; rw [if_pos hb]))
    clear hb
    go_wp2_with fail
    rw [← hw1]
    refine C.out.mono ?_
    rintro e w2 ⟨rfl, hb2⟩
    exact ⟨rfl, Step.bad ((HB1.out.mono (Nat.le_of_lt HP.out)).trans (hb2.mono (Nat.le_of_lt HM1.out.lt))) R.out rfl⟩
  have C := Lib.hid (need_ok (b := 1) (y := 1) (k := (k : Nat)) (f := (f : Nat)) (t := (t : Nat)) w1 HM1.out.po (by have := HWD.out; omega) (by decide) hb rfl)
  have HNB := Lib.hid hb
  clear hb
  go_wp2_with fail
  rw [← hw1]
  refine C.out.mono ?_
  rintro e w2 ⟨rfl, hb2⟩
  have HM2 := Lib.hid (HM1.out.below hb2)
  obtain ⟨q0, q1, q2⟩ := HT.out w2 hb2
  have HB2 := Lib.hid ((HB1.out.mono (Nat.le_of_lt HP.out)).trans (hb2.mono (Nat.le_of_lt HM1.out.lt)))
  have HBB := Lib.hid (Jk.below_tr HB1.out hb2)
  have c2 := HM2.out.po.cells.2.2.1
  rw [← HN.out] at c2
  clear hb2 C hw1
  by_cases h256 : n = 256
  · subst h256
    have R := Lib.hid (HR.out.trans (show s.begin_ (k, f, t) m = .bad 4 f by unfold St.begin_; rw [if_neg HNB.out, if_pos HN.out.symm]))
    go_wp2_with fail
    refine (fail_any _ _ _).mono ?_
    rintro e w3 ⟨rfl, rfl⟩
    exact ⟨rfl, Step.bad HB2.out R.out rfl⟩
  · have h2 : ((n : Int) == 256) = false := by simp; omega
    have R := Lib.hid (HR.out.trans (show s.begin_ (k, f, t) m = .ok { wd := firstM m + 16, sk := (s.nd.length, m) :: s.sk, nd := (s.add (k, f, t) (kdM m) []).nd } by
      unfold St.begin_; rw [if_neg HNB.out, if_neg (fun e => h256 (HN.out.trans e))]))
    have H6 := Lib.hid h256
    clear h256
    have A := Lib.hid (add_any (k := k) (f := f) (t := t) (T := []) HM2.out (HWF.out.addOk hnn HX.out) (S := ⟨#[]⟩) (kd := kdM m) rfl rfl)
    go_wp2_with fail
    refine A.out.mono ?_
    rintro e w3 ⟨rfl, hb3, lab3, nv3, X3, hM3, hX3, hl3, hno⟩
    have HM3 := Lib.hid hM3
    have HX3 := Lib.hid hX3
    have HL3 := Lib.hid hl3
    have HNO := Lib.hid hno
    have HB3 := Lib.hid (HB2.out.trans hb3)
    have HSZ := Lib.hid hb3.size
    have c3 := hM3.po.cells.2.2.1
    rw [← HN.out] at c3
    have hR3 := Lib.hid hM3.stk
    rw [← HN.out] at hR3
    have HTB := Lib.hid (show ∀ w6 o, (w3.alloc o).grownBy w6 (Value.slice sA n sc).ownBlock → w6.cell? ⟨P, 2, none⟩ = some (.slice sA n sc) ∧ w6.frozen? ⟨P, 2, none⟩ = false ∧ (∀ u, (w6.setCell ⟨P, 2, none⟩ u).cell? ⟨P, 1, none⟩ = some (.int .u8 (s.wd : Nat))) ∧ ∀ r, w6.frozen? ⟨P, r, none⟩ = false from fun w6 o hg => by
      have hl := hM3.lt
      have e : w6.heap[P]? = w3.heap[P]? := by
        rw [hg.block P (by simp; omega) (fun e => by have := (hM3.stk.lt P (by rw [← HN.out]; exact e.symm)).1; omega)]
        exact (World.grownBy_alloc w3 o none).block P hl (by simp)
      refine ⟨(World.cell?_of_block (a := ⟨P, 2, none⟩) e).trans c3, (World.frozen?_of_block (a := ⟨P, 2, none⟩) e).trans (hM3.po.free 2), fun u => ?_, fun r => (World.frozen?_of_block (a := ⟨P, r, none⟩) e).trans (hM3.po.free r)⟩
      rw [World.cell?_setCell_other _ _ _ _ (by simp)]
      exact (World.cell?_of_block (a := ⟨P, 1, none⟩) e).trans hM3.po.cells.2.1)
    have hbs3 : P + 1 ≤ w3.heap.size := hM3.lt
    clear hM3 hX3 hl3 hno hb3 A
    go_wp2_with (at_builtin; refine wpList_append_own_at _ rfl (.tmp 30) (.tmp 32) 101 rfl (P + 1) 190 i0 .nilIface 1 16 Tryz.underlying101 hi hz0 hz1 hz2 rfl (by decide) _ n (skL mb s.sk) rfl (hR3.out.alloc _) ⟨w3.heap.size, 0, none⟩ 1 1 [.iface tn pv] rfl rfl (cell_one_new _ _ _) (by intro u hu; simp at hu; subst hu; rfl) (by unfold maxLen; omega) (by omega) (by simp; omega) ?_; intro v' w6 hown6 hg6 hnil6 hl6; obtain ⟨c6, f6, c61, f6r⟩ := HTB.out _ _ hg6; obtain ⟨vA, vc, rfl, _⟩ := (Rr.of_own hown6).shape; clear hnil6)
    have HS := Lib.hid (PM.pushS (a := s.nd.length) (b := b) (m := m) (HM3.out.below ((Below.refl _ _).alloc (Nat.le_refl _) (.cells #[.iface tn pv] 190))) (.inr (by rw [← HX.out, List.length_map])) HWF.out.notIn (fun e => by
        obtain ⟨m1, m2, m3, m4⟩ := HMM.out e
        have hb2 : b < w2.heap.size := Nat.lt_of_lt_of_le m3 HBB.out.size
        have hb3 : b < w3.heap.size := Nat.lt_of_lt_of_le hb2 HSZ.out
        refine ⟨m1, (HL3.out b hb2).trans m2, by simp; omega, map_keep m4 ?_⟩
        rw [(World.grownBy_alloc w3 _ none).block b hb3 (by simp), HNO.out b hb2 (by omega) m2]
        exact HBB.out.block b m3) (by rw [← HN.out]; exact hg6) (by rw [← HN.out, HSH.out]; exact hown6) (by rw [← HN.out]; exact hl6))
    have HBG := Lib.hid (Below.setCell (p := ⟨P, 2, none⟩) ((HB3.out.alloc (Nat.le_of_lt hbs3) _).grown hg6 (by simp; omega) (fun k e => by have := (HM3.out.stk.lt k (by rw [← HN.out]; exact e)).1; omega)) (Nat.le_refl _) (.slice vA (n + 1) vc))
    have HFR := Lib.hid (show Fr lab P w (w6.setCell ⟨P, 2, none⟩ (.slice vA (n + 1) vc)) from (Fr.set (fun b hb hbP hbl => by
      have hb2 : b < w2.heap.size := Nat.lt_of_lt_of_le hb HBB.out.size
      have hb3 : b < w3.heap.size := Nat.lt_of_lt_of_le hb2 HSZ.out
      rw [hg6.block b (by simp; omega) (fun e => by
          have := HM3.out.ls b (by rw [← HN.out]; exact e.symm)
          rw [HL3.out b hb2, hbl] at this; cases this),
        (World.grownBy_alloc w3 _ none).block b hb3 (by simp), HNO.out b hb2 hbP hbl]
      exact HBB.out.block b hb) 2 _))
    clear hown6 hg6 hl6 c6 f6
    have W1 := Lib.hid (WI.out (w6.setCell ⟨P, 2, none⟩ (.slice vA (n + 1) vc)))
    have c71 := c61 (.slice vA (n + 1) vc)
    have f71 : (w6.setCell ⟨P, 2, none⟩ (.slice vA (n + 1) vc)).frozen? ⟨P, 1, none⟩ = false := by rw [World.frozen?_setCell]; exact f6r 1
    clear c61 f6r WI
    obtain ⟨w7, hw7⟩ : ∃ w7, w7 = w6.setCell ⟨P, 2, none⟩ (.slice vA (n + 1) vc) := ⟨_, rfl⟩
    rw [← hw7] at c71 f71 W1 HS HBG HFR ⊢
    refine W1.out.mono ?_
    rintro e w8 ⟨rfl, hw8⟩
    rw [← hw8]
    clear hw8 hw7 W1
    go_wp2_with fail
    refine bodyPost_end (results_none rfl _ _ _) rfl ?_
    refine Step.ok (bset HBG.out 1 _) R.out rfl (by have h7 := HS.out.want (firstM m + 16); rw [← HYW.out] at h7; exact h7) (by rw [HX3.out, HX.out]; rfl) ?_ (HFR.out.set 1 _)
    intro a' ha'
    show (if a' = s.nd.length then [] else ks a') = keysAt (topSub s.sk s.nd ++ [⟨kdM m, [], [], [], [], (f, t)⟩]) a'
    by_cases e : a' = s.nd.length
    · rw [if_pos e]
      unfold keysAt
      rw [List.getElem?_append_right (by rw [topSub_len]; omega), topSub_len, e, Nat.sub_self]; rfl
    · rw [if_neg e]
      rcases List.mem_cons.1 ha' with h | h
      · injection h with h _; exact absurd h e
      · rw [keysAt_top (HWF.out.at_ _ h)]; exact HK.out a' h
end
end Jt
end Go.Proofs.YtggeiajbcehkjaaGreatDoor
