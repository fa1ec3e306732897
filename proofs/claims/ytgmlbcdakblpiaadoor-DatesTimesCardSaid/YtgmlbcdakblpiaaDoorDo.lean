/- What landed: a text begins as a form says; a number in a part of a form. -/
import Derived.Test.YtgmlbcdakblpiaaDoorDn
import Derived.Laws.RangeAny
import Derived.Laws.Runes
import Derived.Deep.LoopGhost
import Derived.LoopTactic
import Derived.Outline
import Derived.Deep.QuietTactic
import Derived.BigQuiet
import Derived.Deep.DeepCutAuto
import Derived.Deep.CutBlock
import Derived.Lib.Strings
import Derived.Test.YtgmlbcdakblpiaaDoorProg
namespace Go.Proofs.YtgmlbcdakblpiaaDoor
open Go.RowKit
namespace Da

/-- A letter. -/
def lt (c : Int) : Bool := decide (65 ≤ c ∧ c ≤ 90 ∨ 97 ≤ c ∧ c ≤ 122)
theorem isl_is {c : Int} {b : Bool} (w : World) (h : b = lt c) : Calls Tryd.prog 79 #[.int .i32 c] w fun e w' => e = .returned (.bool b) ∧ w = w' := by
  unfold lt at h
  by_cases h1 : 65 ≤ c
  · by_cases h2 : c ≤ 90
    · have E := Lib.hid (show b = true by rw [h]; simp; omega)
      clear h
      go_enter Tryd.func79, Tryd.ntmps79
      go_wp2_with fail
      go_ret
      exact ⟨ret_bool E.out.symm, rfl⟩
    · by_cases h3 : 97 ≤ c
      · by_cases h4 : c ≤ 122
        · have E := Lib.hid (show b = true by rw [h]; simp; omega)
          clear h
          go_enter Tryd.func79, Tryd.ntmps79
          go_wp2_with fail
          go_ret
          exact ⟨ret_bool E.out.symm, rfl⟩
        · have E := Lib.hid (show b = false by rw [h]; simp; omega)
          clear h
          go_enter Tryd.func79, Tryd.ntmps79
          go_wp2_with fail
          go_ret
          exact ⟨ret_bool E.out.symm, rfl⟩
      · have E := Lib.hid (show b = false by rw [h]; simp; omega)
        clear h
        go_enter Tryd.func79, Tryd.ntmps79
        go_wp2_with fail
        go_ret
        exact ⟨ret_bool E.out.symm, rfl⟩
  · have h3 : ¬ 97 ≤ c := by omega
    have E := Lib.hid (show b = false by rw [h]; simp; omega)
    clear h
    go_enter Tryd.func79, Tryd.ntmps79
    go_wp2_with fail
    go_ret
    exact ⟨ret_bool E.out.symm, rfl⟩
theorem isd_is {c : Int} {b : Bool} (w : World) (h : b = dg c) : Calls Tryd.prog 65 #[.int .u8 c] w fun e w' => e = .returned (.bool b) ∧ w = w' := by
  unfold dg at h
  by_cases h1 : 48 ≤ c
  · by_cases h2 : c ≤ 57
    · have E := Lib.hid (show b = true by rw [h]; simp; omega)
      clear h
      go_enter Tryd.func65, Tryd.ntmps65
      go_wp2_with fail
      go_ret
      exact ⟨ret_bool E.out.symm, rfl⟩
    · have E := Lib.hid (show b = false by rw [h]; simp; omega)
      clear h
      go_enter Tryd.func65, Tryd.ntmps65
      go_wp2_with fail
      go_ret
      exact ⟨ret_bool E.out.symm, rfl⟩
  · have E := Lib.hid (show b = false by rw [h]; simp; omega)
    clear h
    go_enter Tryd.func65, Tryd.ntmps65
    go_wp2_with fail
    go_ret
    exact ⟨ret_bool E.out.symm, rfl⟩
/-- A byte is as a form's letter says. -/
def mt (c x : Int) : Bool := if lt c = true then dg x else decide (x = c)
/-- A text begins as a form says. -/
def bgs (f l : List UInt8) : Bool := (List.range f.length).all fun i => mt (bt f i) (bt l i)
theorem bgs_iff {f l : List UInt8} : bgs f l = true ↔ ∀ i, i < f.length → mt (bt f i) (bt l i) = true := by simp [bgs]
theorem bgs_no {f l : List UInt8} {i : Nat} (hi : i < f.length) (h : mt (bt f i) (bt l i) = false) : bgs f l = false := by
  cases hb : bgs f l
  · rfl
  · rw [bgs_iff.1 hb i hi] at h; cases h
/-- A form's bytes. -/
def fb (f : List UInt8) : Prop := ∀ i, i < f.length → 0 < bt f i ∧ bt f i < 128
theorem mt_zero {c : Int} (h : 0 < c) : mt c 0 = false := by
  unfold mt
  split
  · rfl
  · rw [decide_eq_false (by omega)]
theorem bgs_short {f l : List UInt8} (hf : fb f) (h : l.length < f.length) : bgs f l = false :=
  bgs_no h (by rw [bt_far (Nat.le_refl _)]; exact mt_zero (hf _ h).1)
theorem byteAt {l : List UInt8} {s : ByteArray} (hs : s = txt l) {k : Nat} (h : k < s.size) : ((s[k]'h).toNat : Int) = bt l k := txt_at hs h
set_option maxHeartbeats 4000000 in
set_option maxRecDepth 100000 in
theorem begins_is {l f : List UInt8} {s F : ByteArray} {b : Bool} (w : World) (hs : s = txt l) (hF : F = txt f) (hl : l.length ≤ 1000000) (hf : f.length ≤ 100) (ha : fb f) (hb : b = bgs f l) :
    Calls Tryd.prog 64 #[.string s, .string F] w fun e w' => e = .returned (.bool b) ∧ Below w.heap.size w w' := by
  have zs : s.size = l.length := by rw [hs, txt_size]
  have zf : F.size = f.length := by rw [hF, txt_size]
  have hsz : s.size ≤ 1000000 := by omega
  have hfz : F.size ≤ 100 := by omega
  by_cases hlen : s.size < F.size
  · have E := Lib.hid (show b = false by rw [hb]; exact bgs_short ha (by omega))
    clear hs hF hl hf ha hb zs zf
    go_enter Tryd.func64, Tryd.ntmps64
    go_wp2_with fail
    go_ret
    exact ⟨ret_bool E.out.symm, Below.refl _ _⟩
  · have HS := Lib.hid hs
    have HF := Lib.hid hF
    have HZ := Lib.hid (And.intro zs zf)
    have HA := Lib.hid ha
    have HBB := Lib.hid hb
    clear hs hF hl hf ha hb zs zf
    go_enter Tryd.func64, Tryd.ntmps64
    go_wp2_with fail
    go_loopg [5, 6] F.size (fun g _ _ wx => ∃ i : Nat, i + g = F.size ∧ wx = w.iter F i ∧ Hid (∀ k, k < i → mt (bt f k) (bt l k) = true))
    case atStart => exact ⟨0, by omega, rfl, Lib.hid (fun k hk => absurd hk (by omega))⟩
    case round =>
      obtain ⟨i, hig, rfl, HM⟩ := hrel
      cases gk with
      | zero =>
        obtain rfl : i = F.size := by omega
        have E := Lib.hid (show b = true by rw [HBB.out]; exact bgs_iff.2 (fun k hk => HM.out k (by rw [HZ.out.2]; exact hk)))
        have hnx := run_next_end (P := Tryd.prog) w F F.size
        go_wp2_with fail
        go_ret
        exact ⟨ret_bool E.out.symm, (Below.refl _ _).alloc (Nat.le_refl _) _⟩
      | succ g =>
        have hi : i < F.size := by omega
        have his : i < s.size := by omega
        have hif : i < f.length := by rw [← HZ.out.2]; exact hi
        have hfi := HA.out i hif
        have hxn := byteAt HF.out hi
        obtain ⟨x, hx⟩ : ∃ x : Nat, (F[i]'hi).toNat = x := ⟨_, rfl⟩
        rw [hx] at hxn
        have hnx := fun ty => run_next_ascii (P := Tryd.prog) w F i ty hi (by rw [hx]; omega)
        rw [hx] at hnx
        have hy := byteAt HS.out his
        obtain ⟨y, hyy⟩ : ∃ y, y = bt l i := ⟨_, rfl⟩
        have y0 := bt_lo l i
        have y1 := bt_hi l i
        have M0 : mt (bt f i) (bt l i) = mt x y := by rw [← hxn, ← hyy]
        rw [← hyy] at hy y0 y1
        have hx128 : (x : Int) < 128 := by omega
        have NO := Lib.hid (fun (h : mt x y = false) => show b = false from HBB.out.trans (bgs_no hif (M0.trans h)))
        have YES := Lib.hid (fun (h : mt x y = true) => show ∀ k, k < i + 1 → mt (bt f k) (bt l k) = true from fun k hk => by
          by_cases e : k = i
          · subst e; rw [M0]; exact h
          · exact HM.out k (by omega))
        have DL := Lib.hid (fun w => isl_is (c := (x : Int)) w rfl)
        have DD := Lib.hid (fun w => isd_is (c := y) w rfl)
        clear hfi hx hxn hyy M0
        cases hlx : lt x
        · rw [hlx] at DL
          by_cases hxy : y = x
          · have E := Lib.hid (YES.out (by unfold mt; rw [hlx]; simp [hxy]))
            have hne : (y != (x : Int)) = false := by simp [hxy]
            subst hxy
            clear hlx NO YES
            go_wp2_with (go_at_call 79; refine (DL.out _).mono ?_; rintro e w' ⟨rfl, rfl⟩)
            go_roundg g
            case measure => omega
            case rel => exact ⟨i + 1, by omega, rfl, E⟩
          · have E := Lib.hid (NO.out (by unfold mt; rw [hlx]; simp [hxy]))
            have hne : (y == (x : Int)) = false := by simp [hxy]
            clear hlx NO YES
            go_wp2_with (go_at_call 79; refine (DL.out _).mono ?_; rintro e w' ⟨rfl, rfl⟩)
            go_ret
            exact ⟨ret_bool E.out.symm, (Below.refl _ _).alloc (Nat.le_refl _) _⟩
        · rw [hlx] at DL
          cases hd : dg y
          · rw [hd] at DD
            have E := Lib.hid (NO.out (by unfold mt; rw [hlx]; simp [hd]))
            clear hlx hd NO YES
            go_wp2_with (first
              | (go_at_call 79; refine (DL.out _).mono ?_; rintro e w' ⟨rfl, rfl⟩)
              | (go_at_call 65; refine (DD.out _).mono ?_; rintro e w' ⟨rfl, rfl⟩))
            go_ret
            exact ⟨ret_bool E.out.symm, (Below.refl _ _).alloc (Nat.le_refl _) _⟩
          · rw [hd] at DD
            have E := Lib.hid (YES.out (by unfold mt; rw [hlx]; simp [hd]))
            clear hlx hd NO YES
            go_wp2_with (first
              | (go_at_call 79; refine (DL.out _).mono ?_; rintro e w' ⟨rfl, rfl⟩)
              | (go_at_call 65; refine (DD.out _).mono ?_; rintro e w' ⟨rfl, rfl⟩))
            go_roundg g
            case measure => omega
            case rel => exact ⟨i + 1, by omega, rfl, E⟩
/-- The number for whose digits a letter stands. -/
def nmb (f p : List UInt8) (c : Int) : Nat → Int
  | 0 => 0
  | k + 1 => if bt f k = c then 10 * nmb f p c k + (bt p k - 48) else nmb f p c k
theorem nmb_le {f p : List UInt8} {c : Int} (hp : ∀ k, k < f.length → bt f k = c → 48 ≤ bt p k ∧ bt p k ≤ 57) : ∀ k, k ≤ f.length → 0 ≤ nmb f p c k ∧ nmb f p c k < 10 ^ k
  | 0, _ => by simp [nmb]
  | k + 1, hk => by
    have ih := nmb_le hp k (by omega)
    rw [nmb, Int.pow_succ]
    split
    · rename_i h
      have := hp k hk h
      omega
    · omega
theorem pow_10 {k : Nat} (h : k ≤ 10) : (10 : Int) ^ k ≤ 10000000000 := by
  have : k = 0 ∨ k = 1 ∨ k = 2 ∨ k = 3 ∨ k = 4 ∨ k = 5 ∨ k = 6 ∨ k = 7 ∨ k = 8 ∨ k = 9 ∨ k = 10 := by omega
  rcases this with rfl | rfl | rfl | rfl | rfl | rfl | rfl | rfl | rfl | rfl | rfl <;> decide
theorem nsub8 {c k : Int} (h : k ≤ c) (h0 : 0 ≤ k) (h1 : c ≤ 255) : IntKind.u8.wrap (c - k) = c - k := by rw [IntKind.wrap_u8']; omega
set_option maxHeartbeats 4000000 in
set_option maxRecDepth 100000 in
theorem number_is {p f : List UInt8} {s F : ByteArray} {c n : Int} (w : World) (hs : s = txt p) (hF : F = txt f) (hf : f.length ≤ 10) (hpl : f.length ≤ p.length) (hpm : p.length ≤ 1000) (ha : fb f) (hp : ∀ k, k < f.length → bt f k = c → 48 ≤ bt p k ∧ bt p k ≤ 57) (hn : n = nmb f p c f.length) :
    Calls Tryd.prog 72 #[.string s, .string F, .int .i32 c] w fun e w' => e = .returned (.int .i64 n) ∧ Below w.heap.size w w' := by
  have zs : s.size = p.length := by rw [hs, txt_size]
  have zf : F.size = f.length := by rw [hF, txt_size]
  have hsz : s.size ≤ 1000 := by omega
  have hfz : F.size ≤ 10 := by omega
  have hfs : F.size ≤ s.size := by omega
  have HS := Lib.hid hs
  have HF := Lib.hid hF
  have HZ := Lib.hid zf
  have HA := Lib.hid ha
  have HP := Lib.hid hp
  have HN := Lib.hid hn
  clear hs hF hf hpl ha hn hp zs zf hpm
  go_enter Tryd.func72, Tryd.ntmps72
  go_wp2_with fail
  go_loopg [6, 7, 8] F.size (fun g a _ _ wx => ∃ i : Nat, i + g = F.size ∧ wx = w.iter F i ∧ ∃ m : Int, a = .int .i64 m ∧ Hid (m = nmb f p c i))
  case atStart => exact ⟨0, by omega, rfl, 0, rfl, Lib.hid rfl⟩
  case round =>
    obtain ⟨i, hig, rfl, m, rfl, HM⟩ := hrel
    have hmb := nmb_le HP.out i (by rw [← HZ.out]; omega)
    rw [← HM.out] at hmb
    have hpw := pow_10 (k := i) (by omega)
    have hm0 : 0 ≤ m := hmb.1
    have hm1 : m ≤ 10000000000 := by omega
    clear hmb hpw
    cases gk with
    | zero =>
      obtain rfl : i = F.size := by omega
      have E := Lib.hid (show n = m by rw [HN.out, HM.out, HZ.out])
      have hnx := run_next_end (P := Tryd.prog) w F F.size
      go_wp2_with fail
      go_ret
      exact ⟨ret_int E.out.symm, (Below.refl _ _).alloc (Nat.le_refl _) _⟩
    | succ g =>
      have hi : i < F.size := by omega
      have his : i < s.size := by omega
      have hif : i < f.length := by rw [← HZ.out]; exact hi
      have hfi := HA.out i hif
      have hxn := byteAt HF.out hi
      obtain ⟨x, hx⟩ : ∃ x : Nat, (F[i]'hi).toNat = x := ⟨_, rfl⟩
      rw [hx] at hxn
      have hnx := fun ty => run_next_ascii (P := Tryd.prog) w F i ty hi (by rw [hx]; omega)
      rw [hx] at hnx
      by_cases hxc : (x : Int) = c
      · have hy := byteAt HS.out his
        have hdig := HP.out i hif (by rw [← hxn]; exact hxc)
        obtain ⟨y, hyy⟩ : ∃ y, y = bt p i := ⟨_, rfl⟩
        rw [← hyy] at hy hdig
        have R := Lib.hid (show 10 * m + (y - 48) = nmb f p c (i + 1) by rw [nmb, if_pos (by rw [← hxn]; exact hxc), ← HM.out, hyy])
        obtain ⟨y0, y1⟩ := hdig
        clear hfi hx hxn hyy
        subst hxc
        go_wp2_with fail
        go_roundg g
        case measure => omega
        case rel => exact ⟨i + 1, by omega, rfl, _, by go_num, R⟩
      · have hxc' : ((x : Int) == c) = false := by simpa using hxc
        have R := Lib.hid (show m = nmb f p c (i + 1) by rw [nmb, if_neg (by rw [← hxn]; exact hxc), ← HM.out])
        clear hfi hx hxn hxc
        go_wp2_with fail
        go_roundg g
        case measure => omega
        case rel => exact ⟨i + 1, by omega, rfl, _, rfl, R⟩
end Da
end Go.Proofs.YtgmlbcdakblpiaaDoor
