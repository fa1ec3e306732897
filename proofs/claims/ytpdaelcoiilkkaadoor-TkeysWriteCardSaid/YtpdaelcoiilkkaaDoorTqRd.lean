/- The program's own reading of a string at a place, and which strings are long (TOML). -/
import Derived.Test.YtpdaelcoiilkkaaDoorTqKi
namespace Go.Proofs.YtpdaelcoiilkkaaDoor
open Go.RowKit

theorem cell_old {W w : World} (h : Below W.heap.size W w) {F i : Nat} {v : Value} (hF : F < W.heap.size) (hc : W.cell? ⟨F, i, none⟩ = some v) : w.cell? ⟨F, i, none⟩ = some v := (h.cell (p := ⟨F, i, none⟩) hF).trans hc
theorem free_old {W w : World} (h : Below W.heap.size W w) {F i : Nat} (hF : F < W.heap.size) (hc : W.frozen? ⟨F, i, none⟩ = false) : w.frozen? ⟨F, i, none⟩ = false := by
  rw [← hc]
  simp only [World.frozen?]
  rw [h.block F hF]
theorem below_of {w w' : World} {o : Obj} (h : Below (w.alloc o).heap.size (w.alloc o) w') : Below w.heap.size w w' :=
  ((Below.refl _ _).alloc (Nat.le_refl _) o).trans (h.mono (by simp))
theorem hasP_at {l : List UInt8} {p : Nat} {q : UInt8} (h : hasP (l.drop p) [q] = true) : tkC l p q.toNat = true := by
  have h := of_decide_eq_true h
  rcases Nat.lt_or_ge p l.length with hp | hp
  · obtain ⟨c, hc, hb⟩ := drop_bt hp
    rw [hc] at h
    simp at h
    subst h
    simp [tkC, hp, hb]
  · rw [List.drop_eq_nil_of_le hp] at h; simp at h
theorem hasP_3 {l : List UInt8} {p : Nat} {q : UInt8} (h : hasP (l.drop p) [q, q, q] = true) : tkC l p q.toNat = true ∧ tkC l (p + 1) q.toNat = true ∧ tkC l (p + 2) q.toNat = true := by
  have h := of_decide_eq_true h
  match hd : l.drop p, h with
  | a :: b :: c :: r, h =>
    simp at h
    obtain ⟨rfl, rfl, rfl⟩ := h
    refine ⟨hasP_at (by rw [hd]; simp [hasP]), hasP_at (by rw [← List.drop_drop, hd]; simp [hasP]), hasP_at (by rw [← List.drop_drop, hd]; simp [hasP])⟩
theorem hasP_rnl {m : List UInt8} {q : UInt8} (h : hasP m [q, q, q] = false) : Tq.rnl q m < 3 := by
  match m, h with
  | [], _ => simp [Tq.rnl]
  | [a], _ => simp only [Tq.rnl]; split <;> omega
  | [a, b], _ => simp only [Tq.rnl]; repeat' split
                 all_goals omega
  | a :: b :: c :: r, h =>
    by_cases h1 : a = q
    · by_cases h2 : b = q
      · by_cases h3 : c = q
        · subst h1; subst h2; subst h3; simp [hasP] at h
        · simp [Tq.rnl, h1, h2, h3]
      · simp [Tq.rnl, h1, h2]
    · simp [Tq.rnl, h1]
theorem rnl_has {m : List UInt8} {q : UInt8} (h : hasP m [q, q, q] = true) : 3 ≤ Tq.rnl q m := by
  have h := of_decide_eq_true h
  match m, h with
  | a :: b :: c :: r, h =>
    simp at h
    obtain ⟨rfl, rfl, rfl⟩ := h
    simp [Tq.rnl]
section
variable {l : List UInt8} {p : Nat}
theorem rd_none (h1 : hasP (l.drop p) [34] = false) (h2 : hasP (l.drop p) [39] = false) : Tq.rd (l.drop p) = .bad 0 := by
  match hd : l.drop p with
  | [] => rfl
  | c :: r =>
    rw [hd] at h1 h2
    have n1 : c ≠ 34 := by rintro rfl; simp [hasP] at h1
    have n2 : c ≠ 39 := by rintro rfl; simp [hasP] at h2
    simp only [Tq.rd]
    rw [if_neg (by rintro (h | h); exact n1 h; exact n2 h)]
theorem rd_short {q : UInt8} (hq : q = 34 ∨ q = 39) (h3 : hasP (l.drop p) [q, q, q] = false) (h1 : hasP (l.drop p) [q] = true) : Tq.rd (l.drop p) = (Tq.rs q false (l.drop (p + 1))).pre 1 [] := by
  have ht := tkC_drop (hasP_at h1)
  have hr := hasP_rnl h3
  rw [ht] at hr ⊢
  simp only [Tq.rd]
  rw [if_pos hq, if_neg (by omega)]
theorem rd_long {q : UInt8} (hq : q = 34 ∨ q = 39) (h3 : hasP (l.drop p) [q, q, q] = true) : Tq.rd (l.drop p) = (Tq.rs q true (l.drop (loP l p))).pre (loP l p - p) [] := by
  obtain ⟨t0, t1, t2⟩ := hasP_3 h3
  have hr := rnl_has h3
  have e2 := tkC_drop t2
  have e1 := tkC_drop t1
  have e0 := tkC_drop t0
  have hd : l.drop (p + 1) = q :: q :: l.drop (p + 3) := by rw [e1, e2]
  rw [e0] at hr ⊢
  simp only [Tq.rd]
  rw [if_pos hq, if_pos hr, hd]
  simp only [List.drop_succ_cons, List.drop_zero]
  cases hf : Tq.fd (l.drop (p + 3)) with
  | none =>
    have hb : leB l (p + 3) = false := by rw [leB, hf]
    have hlo : loP l p = p + 3 := by rw [loP, if_neg (by rw [hb]; decide)]
    rw [hlo, show p + 3 - p = 3 by omega]
    have hst : Tq.st q true (l.drop (p + 3)) = .stop (.bad 1) := by
      match hm : l.drop (p + 3), hf with
      | [], hf => cases hf
      | c :: r, hf =>
        have hc : c = 13 := by
          by_cases h10 : c = 10
          · subst h10; cases hf
          · by_cases h13 : c = 13
            · exact h13
            · have : Tq.fd (c :: r) = some 0 := by unfold Tq.fd; split <;> simp_all
              rw [this] at hf; cases hf
        subst hc
        simp only [Tq.st]
        rw [if_neg (by rcases hq with rfl | rfl <;> decide), if_neg (by rintro ⟨h, _⟩; exact absurd h (by decide)), hf, if_pos ⟨trivial, by simp⟩]
    rw [Tq.rs_stop hst]; rfl
  | some n =>
    cases n with
    | zero =>
      have hb : leB l (p + 3) = false := by rw [leB, hf]
      have hlo : loP l p = p + 3 := by rw [loP, if_neg (by rw [hb]; decide)]
      rw [hlo, show p + 3 - p = 3 by omega]; rfl
    | succ n =>
      have hb : leB l (p + 3) = true := by rw [leB, hf]
      have hlo : loP l p = p + 3 + (n + 1) := by rw [loP, if_pos hb, leP, hf]
      rw [hlo, show p + 3 + (n + 1) - p = 3 + (n + 1) by omega]
      show (Tq.rs q true (List.drop (2 + (n + 1)) (q :: q :: l.drop (p + 3)))).pre (3 + (n + 1)) [] = _
      rw [show List.drop (2 + (n + 1)) (q :: q :: l.drop (p + 3)) = l.drop (p + 3 + (n + 1)) by
        rw [show 2 + (n + 1) = (n + 1) + 1 + 1 by omega, List.drop_succ_cons, List.drop_succ_cons, List.drop_drop]]
end
/-- What a reading at p answers. -/
def rvl (p : Nat) : Tq.R → Value
  | .ok t k => .tuple #[.string (txt t), .int .i64 (p + k : Nat), .agg #[.int .i64 0, .int .i64 0]]
  | .bad k => .tuple #[.string ⟨#[]⟩, .int .i64 0, .agg #[.int .i64 3, .int .i64 (p + k : Nat)]]
theorem mt_lb_whole (b : Nat) (w : World) : (method 207 86 (.pointer (some ⟨b, 0, none⟩)) "inarch/tquotes.whole").run Tryd.prog w = .ok (83, .pointer (some ⟨b, 0, none⟩)) w := by kernel_rfl
theorem mt_lb_place (b : Nat) (w : World) : (method 207 86 (.pointer (some ⟨b, 0, none⟩)) "inarch/tquotes.place").run Tryd.prog w = .ok (81, .pointer (some ⟨b, 0, none⟩)) w := by kernel_rfl
theorem mt_lb_told (b : Nat) (w : World) : (method 207 86 (.pointer (some ⟨b, 0, none⟩)) "inarch/tquotes.told").run Tryd.prog w = .ok (82, .pointer (some ⟨b, 0, none⟩)) w := by kernel_rfl
theorem mt_ba_whole (b : Nat) (w : World) : (method 207 95 (.pointer (some ⟨b, 0, none⟩)) "inarch/tquotes.whole").run Tryd.prog w = .ok (106, .pointer (some ⟨b, 0, none⟩)) w := by kernel_rfl
theorem mt_ba_place (b : Nat) (w : World) : (method 207 95 (.pointer (some ⟨b, 0, none⟩)) "inarch/tquotes.place").run Tryd.prog w = .ok (81, .pointer (some ⟨b, 0, none⟩)) w := by kernel_rfl
theorem mt_ba_told (b : Nat) (w : World) : (method 207 95 (.pointer (some ⟨b, 0, none⟩)) "inarch/tquotes.told").run Tryd.prog w = .ok (82, .pointer (some ⟨b, 0, none⟩)) w := by kernel_rfl
theorem mt_li_whole (b : Nat) (w : World) : (method 207 97 (.pointer (some ⟨b, 0, none⟩)) "inarch/tquotes.whole").run Tryd.prog w = .ok (107, .pointer (some ⟨b, 0, none⟩)) w := by kernel_rfl
theorem mt_li_place (b : Nat) (w : World) : (method 207 97 (.pointer (some ⟨b, 0, none⟩)) "inarch/tquotes.place").run Tryd.prog w = .ok (81, .pointer (some ⟨b, 0, none⟩)) w := by kernel_rfl
theorem mt_li_told (b : Nat) (w : World) : (method 207 97 (.pointer (some ⟨b, 0, none⟩)) "inarch/tquotes.told").run Tryd.prog w = .ok (82, .pointer (some ⟨b, 0, none⟩)) w := by kernel_rfl
theorem HdOk.old {w W : World} {l : List UInt8} (h : HdOk w l) (hz : 2 < w.heap.size) (hb : Below w.heap.size w W) : HdOk W l := fun k many n r hm hx hs =>
  ⟨(h k many n r hm hx hs).1.old hz hb, Nat.lt_of_lt_of_le hz hb.size⟩
/-- What keeps a reading's fault cell: it lies in block F, in the world W. -/
structure FC (w W : World) (F : Nat) : Prop where
  lt : F < W.heap.size
  c0 : W.cell? ⟨F, 0, none⟩ = some (.int .i64 0)
  c1 : W.cell? ⟨F, 1, none⟩ = some (.int .i64 0)
  f0 : W.frozen? ⟨F, 0, none⟩ = false
  f1 : W.frozen? ⟨F, 1, none⟩ = false
  bel : ∀ w', Below W.heap.size W w' → Below w.heap.size w w'
  le : w.heap.size ≤ F
theorem FC.new (w : World) : FC w (w.alloc (.cells #[.int .i64 0, .int .i64 0] 29)) w.heap.size :=
  ⟨by simp, by rw [World.cell?_alloc_at _ _ _ _ rfl]; rfl, by rw [World.cell?_alloc_at _ _ _ _ rfl]; rfl, World.frozen?_alloc_new _ _ _ _, World.frozen?_alloc_new _ _ _ _, fun _ h => below_of h, Nat.le_refl _⟩
section
variable {l : List UInt8} {s : ByteArray} {p : Nat}
set_option maxHeartbeats 4000000 in
set_option maxRecDepth 100000 in
theorem tread_lb (w : World) (hs : s = txt l) (hl : l.length ≤ 1000000) (hp : p ≤ l.length) (a : hasP (l.drop p) [34, 34, 34] = true) (n92 : ∀ k, tkC l k 92 = false) {r : Tq.R} (hr : r = Tq.rd (l.drop p)) :
    Calls Tryd.prog 21 #[.string s, .int .i64 p] w fun e w' => e = .returned (rvl p r) ∧ Below w.heap.size w w' := by
  have hps : decide (s.size < p) = false := decide_eq_false (by rw [hs, txt_size]; omega)
  have hp0 : decide ((p : Int) < 0) = false := decide_eq_false (by omega)
  have HS := Lib.hid hs
  have HL := Lib.hid hl
  have HP := Lib.hid hp
  have HRR := Lib.hid hr
  have Ha := Lib.hid a
  have Hn92 := Lib.hid n92
  have HFC := Lib.hid (FC.new w)
  have HWB := Lib.hid (show w.heap.size ≤ (w.alloc (.cells #[.int .i64 0, .int .i64 0] 29)).heap.size by simp)
  have HW0 := Lib.hid (show Below w.heap.size w (w.alloc (.cells #[.int .i64 0, .int .i64 0] 29)) from (Below.refl _ _).alloc (Nat.le_refl _) _)
  clear hs hl hp hr a n92
  go_enter Tryd.func21, Tryd.ntmps21
  go_wp2_with fail
  refine (tqa_KLB _ HS.out HL.out HP.out Ha.out).mono ?_
  rintro e w1 ⟨rfl, R⟩
  obtain ⟨W, hW⟩ : ∃ W, w.alloc (.cells #[.int .i64 0, .int .i64 0] 29) = W := ⟨_, rfl⟩
  have hWs : W.heap.size = w.heap.size + 1 := by rw [← hW]; simp
  rw [hW, hWs] at R
  rw [hW, hWs]
  have HWs := Lib.hid hWs
  have HR := Lib.hid R
  have HFW : Hid (FC w W w.heap.size) := Lib.hid (by rw [← hW]; exact HFC.out)
  have HWB2 : Hid (w.heap.size ≤ W.heap.size) := Lib.hid (by omega)
  have HW1 : Hid (Below w.heap.size w W) := Lib.hid (by rw [← hW]; exact HW0.out)
  clear R hWs hW HFC HWB HW0
  have hm1 := mt_lb_whole (w.heap.size + 1)
  have hm2 := mt_lb_place (w.heap.size + 1)
  have hm3 := mt_lb_told (w.heap.size + 1)
  go_wp2_with fail
  refine (tlbas_any HR.out HS.out HL.out (hasP_3 (q := 34) Ha.out).1 (hasP_3 (q := 34) Ha.out).2.1 (hasP_3 (q := 34) Ha.out).2.2 rfl Hn92.out (r := r) (HRR.out.trans (rd_long (.inl rfl) Ha.out))).mono ?_
  intro e w2 hpost
  cases r with
  | ok u k =>
    obtain ⟨rfl, R2⟩ := hpost
    have HR2 := Lib.hid R2
    have r1 := R2.1
    have d0 := cell_old r1 HFW.out.lt HFW.out.c0
    have d1 := cell_old r1 HFW.out.lt HFW.out.c1
    have e0 := free_old r1 HFW.out.lt HFW.out.f0
    have e1 := free_old r1 HFW.out.lt HFW.out.f1
    have HB2 := Lib.hid (HFW.out.bel w2 r1)
    obtain ⟨S, HSS⟩ : ∃ S, Hid (S = txt u) := ⟨_, rfl⟩
    clear R2 r1
    go_wp2_with fail
    refine (ttold_any HR2.out HSS.out).mono ?_
    rintro e w3 ⟨rfl, rfl⟩
    go_wp2_with fail
    refine (tplace_any HR2.out).mono ?_
    rintro e w3 ⟨rfl, rfl⟩
    go_wp2_with fail
    refine bodyPost_ret (v := .tuple #[.string S, .int .i64 (p + k : Nat), .agg #[.int .i64 0, .int .i64 0]]) (by simp [results, Tryd.results21, go_sem, *]) rfl ?_
    exact ⟨by rw [rvl, HSS.out], (HB2.out.setCell (Nat.le_refl _) _).setCell (Nat.le_refl _) _⟩
  | bad k =>
    obtain ⟨rfl, u, R2⟩ := hpost
    have HR2 := Lib.hid R2
    have r1 := R2.1
    have d0 := cell_old r1 HFW.out.lt HFW.out.c0
    have d1 := cell_old r1 HFW.out.lt HFW.out.c1
    have e0 := free_old r1 HFW.out.lt HFW.out.f0
    have e1 := free_old r1 HFW.out.lt HFW.out.f1
    have HB2 := Lib.hid (HFW.out.bel w2 r1)
    clear R2 r1
    go_wp2_with fail
    refine (tplace_any HR2.out).mono ?_
    rintro e w3 ⟨rfl, rfl⟩
    go_wp2_with fail
    refine bodyPost_ret (v := .tuple #[.string ⟨#[]⟩, .int .i64 0, .agg #[.int .i64 3, .int .i64 (p + k : Nat)]]) (by simp [results, Tryd.results21, go_sem, *]) rfl ?_
    exact ⟨by rw [rvl], (HB2.out.setCell (Nat.le_refl _) _).setCell (Nat.le_refl _) _⟩
set_option maxHeartbeats 4000000 in
set_option maxRecDepth 100000 in
theorem tread_li (w : World) (hs : s = txt l) (hl : l.length ≤ 1000000) (hp : p ≤ l.length) (a : hasP (l.drop p) [34, 34, 34] = false) (b : hasP (l.drop p) [39, 39, 39] = false) (c : hasP (l.drop p) [34] = false) (d : hasP (l.drop p) [39] = true) {r : Tq.R} (hr : r = Tq.rd (l.drop p)) :
    Calls Tryd.prog 21 #[.string s, .int .i64 p] w fun e w' => e = .returned (rvl p r) ∧ Below w.heap.size w w' := by
  have hps : decide (s.size < p) = false := decide_eq_false (by rw [hs, txt_size]; omega)
  have hp0 : decide ((p : Int) < 0) = false := decide_eq_false (by omega)
  have HS := Lib.hid hs
  have HL := Lib.hid hl
  have HP := Lib.hid hp
  have HRR := Lib.hid hr
  have Ha := Lib.hid a
  have Hb := Lib.hid b
  have Hc := Lib.hid c
  have Hd := Lib.hid d
  have HFC := Lib.hid (FC.new w)
  have HWB := Lib.hid (show w.heap.size ≤ (w.alloc (.cells #[.int .i64 0, .int .i64 0] 29)).heap.size by simp)
  have HW0 := Lib.hid (show Below w.heap.size w (w.alloc (.cells #[.int .i64 0, .int .i64 0] 29)) from (Below.refl _ _).alloc (Nat.le_refl _) _)
  clear hs hl hp hr a b c d
  go_enter Tryd.func21, Tryd.ntmps21
  go_wp2_with fail
  refine (tqa_KLI _ HS.out HL.out HP.out Ha.out Hb.out Hc.out Hd.out).mono ?_
  rintro e w1 ⟨rfl, R⟩
  obtain ⟨W, hW⟩ : ∃ W, w.alloc (.cells #[.int .i64 0, .int .i64 0] 29) = W := ⟨_, rfl⟩
  have hWs : W.heap.size = w.heap.size + 1 := by rw [← hW]; simp
  rw [hW, hWs] at R
  rw [hW, hWs]
  have HWs := Lib.hid hWs
  have HR := Lib.hid R
  have HFW : Hid (FC w W w.heap.size) := Lib.hid (by rw [← hW]; exact HFC.out)
  have HWB2 : Hid (w.heap.size ≤ W.heap.size) := Lib.hid (by omega)
  have HW1 : Hid (Below w.heap.size w W) := Lib.hid (by rw [← hW]; exact HW0.out)
  clear R hWs hW HFC HWB HW0
  have hm1 := mt_li_whole (w.heap.size + 1)
  have hm2 := mt_li_place (w.heap.size + 1)
  have hm3 := mt_li_told (w.heap.size + 1)
  go_wp2_with fail
  refine (tlit_any HR.out HS.out HL.out (hasP_at (q := 39) Hd.out) rfl (r := r) (HRR.out.trans (rd_short (.inr rfl) Hb.out Hd.out))).mono ?_
  intro e w2 hpost
  cases r with
  | ok u k =>
    obtain ⟨rfl, R2⟩ := hpost
    have HR2 := Lib.hid R2
    have r1 := R2.1
    have d0 := cell_old r1 HFW.out.lt HFW.out.c0
    have d1 := cell_old r1 HFW.out.lt HFW.out.c1
    have e0 := free_old r1 HFW.out.lt HFW.out.f0
    have e1 := free_old r1 HFW.out.lt HFW.out.f1
    have HB2 := Lib.hid (HFW.out.bel w2 r1)
    obtain ⟨S, HSS⟩ : ∃ S, Hid (S = txt u) := ⟨_, rfl⟩
    clear R2 r1
    go_wp2_with fail
    refine (ttold_any HR2.out HSS.out).mono ?_
    rintro e w3 ⟨rfl, rfl⟩
    go_wp2_with fail
    refine (tplace_any HR2.out).mono ?_
    rintro e w3 ⟨rfl, rfl⟩
    go_wp2_with fail
    refine bodyPost_ret (v := .tuple #[.string S, .int .i64 (p + k : Nat), .agg #[.int .i64 0, .int .i64 0]]) (by simp [results, Tryd.results21, go_sem, *]) rfl ?_
    exact ⟨by rw [rvl, HSS.out], (HB2.out.setCell (Nat.le_refl _) _).setCell (Nat.le_refl _) _⟩
  | bad k =>
    obtain ⟨rfl, u, R2⟩ := hpost
    have HR2 := Lib.hid R2
    have r1 := R2.1
    have d0 := cell_old r1 HFW.out.lt HFW.out.c0
    have d1 := cell_old r1 HFW.out.lt HFW.out.c1
    have e0 := free_old r1 HFW.out.lt HFW.out.f0
    have e1 := free_old r1 HFW.out.lt HFW.out.f1
    have HB2 := Lib.hid (HFW.out.bel w2 r1)
    clear R2 r1
    go_wp2_with fail
    refine (tplace_any HR2.out).mono ?_
    rintro e w3 ⟨rfl, rfl⟩
    go_wp2_with fail
    refine bodyPost_ret (v := .tuple #[.string ⟨#[]⟩, .int .i64 0, .agg #[.int .i64 3, .int .i64 (p + k : Nat)]]) (by simp [results, Tryd.results21, go_sem, *]) rfl ?_
    exact ⟨by rw [rvl], (HB2.out.setCell (Nat.le_refl _) _).setCell (Nat.le_refl _) _⟩
set_option maxHeartbeats 4000000 in
set_option maxRecDepth 100000 in
theorem tread_ba (w : World) (hs : s = txt l) (hl : l.length ≤ 1000000) (hp : p ≤ l.length) (a : hasP (l.drop p) [34, 34, 34] = false) (b : hasP (l.drop p) [39, 39, 39] = false) (c : hasP (l.drop p) [34] = true) (hH : ∀ W, Below w.heap.size w W → HdOk W l) (hS : TShorts w) (hz : 0 < w.heap.size) {r : Tq.R} (hr : r = Tq.rd (l.drop p)) :
    Calls Tryd.prog 21 #[.string s, .int .i64 p] w fun e w' => e = .returned (rvl p r) ∧ Below w.heap.size w w' := by
  have hps : decide (s.size < p) = false := decide_eq_false (by rw [hs, txt_size]; omega)
  have hp0 : decide ((p : Int) < 0) = false := decide_eq_false (by omega)
  have HS := Lib.hid hs
  have HL := Lib.hid hl
  have HP := Lib.hid hp
  have HRR := Lib.hid hr
  have Ha := Lib.hid a
  have Hb := Lib.hid b
  have Hc := Lib.hid c
  have HhH := Lib.hid hH
  have HhS := Lib.hid hS
  have Hhz := Lib.hid hz
  have HFC := Lib.hid (FC.new w)
  have HWB := Lib.hid (show w.heap.size ≤ (w.alloc (.cells #[.int .i64 0, .int .i64 0] 29)).heap.size by simp)
  have HW0 := Lib.hid (show Below w.heap.size w (w.alloc (.cells #[.int .i64 0, .int .i64 0] 29)) from (Below.refl _ _).alloc (Nat.le_refl _) _)
  clear hs hl hp hr a b c hH hS hz
  go_enter Tryd.func21, Tryd.ntmps21
  go_wp2_with fail
  refine (tqa_KBA _ HS.out HL.out HP.out Ha.out Hb.out Hc.out).mono ?_
  rintro e w1 ⟨rfl, R⟩
  obtain ⟨W, hW⟩ : ∃ W, w.alloc (.cells #[.int .i64 0, .int .i64 0] 29) = W := ⟨_, rfl⟩
  have hWs : W.heap.size = w.heap.size + 1 := by rw [← hW]; simp
  rw [hW, hWs] at R
  rw [hW, hWs]
  have HWs := Lib.hid hWs
  have HR := Lib.hid R
  have HFW : Hid (FC w W w.heap.size) := Lib.hid (by rw [← hW]; exact HFC.out)
  have HWB2 : Hid (w.heap.size ≤ W.heap.size) := Lib.hid (by omega)
  have HW1 : Hid (Below w.heap.size w W) := Lib.hid (by rw [← hW]; exact HW0.out)
  clear R hWs hW HFC HWB HW0
  have hm1 := mt_ba_whole (w.heap.size + 1)
  have hm2 := mt_ba_place (w.heap.size + 1)
  have hm3 := mt_ba_told (w.heap.size + 1)
  go_wp2_with fail
  refine (tbas_any HR.out HS.out HL.out (hasP_at (q := 34) Hc.out) rfl (HhH.out _ HW1.out) (HhS.out.old Hhz.out HW1.out) (Nat.lt_of_lt_of_le Hhz.out HWB2.out) (r := r) (HRR.out.trans (rd_short (.inl rfl) Ha.out Hc.out))).mono ?_
  intro e w2 hpost
  cases r with
  | ok u k =>
    obtain ⟨rfl, R2⟩ := hpost
    have HR2 := Lib.hid R2
    have r1 := R2.1
    have d0 := cell_old r1 HFW.out.lt HFW.out.c0
    have d1 := cell_old r1 HFW.out.lt HFW.out.c1
    have e0 := free_old r1 HFW.out.lt HFW.out.f0
    have e1 := free_old r1 HFW.out.lt HFW.out.f1
    have HB2 := Lib.hid (HFW.out.bel w2 r1)
    obtain ⟨S, HSS⟩ : ∃ S, Hid (S = txt u) := ⟨_, rfl⟩
    clear R2 r1
    go_wp2_with fail
    refine (ttold_any HR2.out HSS.out).mono ?_
    rintro e w3 ⟨rfl, rfl⟩
    go_wp2_with fail
    refine (tplace_any HR2.out).mono ?_
    rintro e w3 ⟨rfl, rfl⟩
    go_wp2_with fail
    refine bodyPost_ret (v := .tuple #[.string S, .int .i64 (p + k : Nat), .agg #[.int .i64 0, .int .i64 0]]) (by simp [results, Tryd.results21, go_sem, *]) rfl ?_
    exact ⟨by rw [rvl, HSS.out], (HB2.out.setCell (Nat.le_refl _) _).setCell (Nat.le_refl _) _⟩
  | bad k =>
    obtain ⟨rfl, u, R2⟩ := hpost
    have HR2 := Lib.hid R2
    have r1 := R2.1
    have d0 := cell_old r1 HFW.out.lt HFW.out.c0
    have d1 := cell_old r1 HFW.out.lt HFW.out.c1
    have e0 := free_old r1 HFW.out.lt HFW.out.f0
    have e1 := free_old r1 HFW.out.lt HFW.out.f1
    have HB2 := Lib.hid (HFW.out.bel w2 r1)
    clear R2 r1
    go_wp2_with fail
    refine (tplace_any HR2.out).mono ?_
    rintro e w3 ⟨rfl, rfl⟩
    go_wp2_with fail
    refine bodyPost_ret (v := .tuple #[.string ⟨#[]⟩, .int .i64 0, .agg #[.int .i64 3, .int .i64 (p + k : Nat)]]) (by simp [results, Tryd.results21, go_sem, *]) rfl ?_
    exact ⟨by rw [rvl], (HB2.out.setCell (Nat.le_refl _) _).setCell (Nat.le_refl _) _⟩
theorem ta_ll_lb (a : Option Addr) (w : World) : (Instr.typeAssert (.iface 93 (.pointer a)) 75 86 true).run Tryd.prog w = .ok (.tuple #[.pointer none, .bool false]) w := by kernel_rfl
theorem ta_ll_ll (a : Option Addr) (w : World) : (Instr.typeAssert (.iface 93 (.pointer a)) 75 93 true).run Tryd.prog w = .ok (.tuple #[.pointer a, .bool true]) w := by kernel_rfl
theorem ta_li_lb (a : Option Addr) (w : World) : (Instr.typeAssert (.iface 97 (.pointer a)) 75 86 true).run Tryd.prog w = .ok (.tuple #[.pointer none, .bool false]) w := by kernel_rfl
theorem ta_li_ll (a : Option Addr) (w : World) : (Instr.typeAssert (.iface 97 (.pointer a)) 75 93 true).run Tryd.prog w = .ok (.tuple #[.pointer none, .bool false]) w := by kernel_rfl
set_option maxHeartbeats 1000000 in
set_option maxRecDepth 100000 in
theorem tlong_yes (w : World) (hs : s = txt l) (hl : l.length ≤ 1000000) (hp : p ≤ l.length) (a : hasP (l.drop p) [34, 34, 34] = false) (b : hasP (l.drop p) [39, 39, 39] = true) :
    Calls Tryd.prog 42 #[.string s, .int .i64 p] w fun e w' => e = .returned (.bool true) ∧ Below w.heap.size w w' := by
  have hps : decide (s.size < p) = false := decide_eq_false (by rw [hs, txt_size]; omega)
  have hp0 : decide ((p : Int) < 0) = false := decide_eq_false (by omega)
  have HS := Lib.hid hs
  have HL := Lib.hid hl
  have HP := Lib.hid hp
  have Ha := Lib.hid a
  have Hb := Lib.hid b
  clear hs hl hp a b
  go_enter Tryd.func42, Tryd.ntmps42
  go_wp2_with fail
  refine (tqa_KLL _ HS.out HL.out HP.out Ha.out Hb.out).mono ?_
  rintro e w1 ⟨rfl, R⟩
  have HR := Lib.hid R
  clear R
  have k1 := ta_ll_lb (some ⟨w.heap.size, 0, none⟩) w1
  have k2 := ta_ll_ll (some ⟨w.heap.size, 0, none⟩) w1
  go_wp2_with fail
  go_ret
  exact ⟨rfl, HR.out.1⟩
set_option maxHeartbeats 1000000 in
set_option maxRecDepth 100000 in
theorem tlong_no (w : World) (hs : s = txt l) (hl : l.length ≤ 1000000) (hp : p ≤ l.length) (a : hasP (l.drop p) [34, 34, 34] = false) (b : hasP (l.drop p) [39, 39, 39] = false) (c : hasP (l.drop p) [34] = false) (d : hasP (l.drop p) [39] = true) :
    Calls Tryd.prog 42 #[.string s, .int .i64 p] w fun e w' => e = .returned (.bool false) ∧ Below w.heap.size w w' := by
  have hps : decide (s.size < p) = false := decide_eq_false (by rw [hs, txt_size]; omega)
  have hp0 : decide ((p : Int) < 0) = false := decide_eq_false (by omega)
  have HS := Lib.hid hs
  have HL := Lib.hid hl
  have HP := Lib.hid hp
  have Ha := Lib.hid a
  have Hb := Lib.hid b
  have Hc := Lib.hid c
  have Hd := Lib.hid d
  clear hs hl hp a b c d
  go_enter Tryd.func42, Tryd.ntmps42
  go_wp2_with fail
  refine (tqa_KLI _ HS.out HL.out HP.out Ha.out Hb.out Hc.out Hd.out).mono ?_
  rintro e w1 ⟨rfl, R⟩
  have HR := Lib.hid R
  clear R
  have k1 := ta_li_lb (some ⟨w.heap.size, 0, none⟩) w1
  have k2 := ta_li_ll (some ⟨w.heap.size, 0, none⟩) w1
  go_wp2_with fail
  go_ret
  exact ⟨rfl, HR.out.1⟩
end
end Go.Proofs.YtpdaelcoiilkkaaDoor
