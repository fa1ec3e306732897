/- The document's reading of a float's text, walked. -/
import Derived.Test.YthjlnafmpcppfaaGreatDoorFg
import Derived.Test.YthjlnafmpcppfaaGreatDoorFL
import Derived.Test.YthjlnafmpcppfaaGreatDoorRead
namespace Go.Proofs.YthjlnafmpcppfaaGreatDoor
open Go.RowKit
namespace Fl

theorem rn_len : ∀ (l : List UInt8) (p : Bool), (rn p l).2.length ≤ (rn p l).1
  | [], p => Nat.le_refl _
  | c :: r, p => by
    rw [rn]
    split
    · have := rn_len r true; simp; omega
    · split
      · have := rn_len r false; simp; omega
      · simp
theorem rn_nb : ∀ (l : List UInt8) (p : Bool), (rn p l).2.all nb = true
  | [], p => rfl
  | c :: r, p => by
    rw [rn]
    split
    · rename_i h; rw [List.all_cons, h, rn_nb r true]; rfl
    · split
      · exact rn_nb r false
      · rfl
/-- What lies where. -/
structure Where (l : List UInt8) : Prop where
  s0 : sg0 l ≤ 1
  s1 : sg0 l ≤ l.length
  a1 : p1 l ≤ l.length
  a2 : dt l = true → p1 l + 1 ≤ l.length
  a3 : p2 l ≤ l.length
  a4 : ex l = true → p2 l + 1 ≤ l.length
  a5 : es l = true → p2 l + 1 + 1 ≤ l.length
  a6 : ex l = true → p3 l ≤ l.length
  a7 : p4 l ≤ l.length
  n1 : (R1 l).2.length ≤ l.length
  n2 : (R2 l).2.length ≤ l.length
  n3 : (R3 l).2.length ≤ l.length
theorem rn_drop (l : List UInt8) {i : Nat} (h : i ≤ l.length) : i + (rn false (l.drop i)).1 ≤ l.length := by
  have := rn_le (l.drop i) false
  rw [List.length_drop] at this
  omega
theorem rn_dlen (l : List UInt8) (i : Nat) : (rn false (l.drop i)).2.length ≤ l.length := by
  have h1 := rn_le (l.drop i) false
  have h2 := rn_len (l.drop i) false
  rw [List.length_drop] at h1
  omega
theorem where_ (l : List UInt8) : Where l := by
  have far : ∀ {k : Nat}, bt l k ≠ 0 → k < l.length := fun {k} h => by
    rcases Nat.lt_or_ge k l.length with h2 | h2
    · exact h2
    · exact absurd (bt_far h2) h
  have s1 := sg0_le l
  have a1 : p1 l ≤ l.length := rn_drop l s1
  have a2 : dt l = true → p1 l + 1 ≤ l.length := fun h => far (by have := of_decide_eq_true h; omega)
  have a3 : p2 l ≤ l.length := by
    unfold p2
    split
    · rename_i h; exact rn_drop l (a2 h)
    · exact a1
  have a4 : ex l = true → p2 l + 1 ≤ l.length := fun h => far (by have := of_decide_eq_true h; omega)
  have a5 : es l = true → p2 l + 1 + 1 ≤ l.length := fun h => far (by have := of_decide_eq_true h; omega)
  have a6 : ex l = true → p3 l ≤ l.length := fun h => by
    unfold p3
    split
    · rename_i h2; exact a5 h2
    · exact a4 h
  refine ⟨by unfold sg0; split <;> omega, s1, a1, a2, a3, a4, a5, a6, ?_, rn_dlen l _, rn_dlen l _, rn_dlen l _⟩
  unfold p4
  split
  · rename_i h; exact rn_drop l (a6 h)
  · exact a3
theorem isz {S : ByteArray} {O : List UInt8} (h : S = txt O) : S.size = O.length := by rw [h, txt_size]
/-- The text ahead of the exponent. -/
def tx2 (l : List UInt8) : List UInt8 := mn l ++ (R1 l).2 ++ (if dt l = true then 46 :: (R2 l).2 else [])
def sx (l : List UInt8) : List UInt8 := if es l = true then [UInt8.ofNat (bt l (p2 l + 1)).toNat] else []
theorem tx_is (l : List UInt8) : tx l = tx2 l ++ (if ex l = true then 101 :: (sx l ++ (R3 l).2) else []) := rfl
theorem drop_txt {l : List UInt8} {s : ByteArray} {i : Nat} (h : s = txt l) : (s.extract i s.size).toList = l.drop i := by
  rw [h, txt_drop, II.toList_txt]
theorem mn_len (l : List UInt8) : (mn l).length ≤ 1 := by unfold mn; split <;> simp
theorem docF_inf {l : List UInt8} (h : l.drop (sg0 l) = INF) : docF l = (mn l ++ INF, 0) := by unfold docF; rw [if_pos h]
theorem docF_nan {l : List UInt8} (h1 : l.drop (sg0 l) ≠ INF) (h : l.drop (sg0 l) = NAN) : docF l = (NAN, 0) := by unfold docF; rw [if_neg h1, if_pos h]
theorem docF_bad {l : List UInt8} (h1 : l.drop (sg0 l) ≠ INF) (h2 : l.drop (sg0 l) ≠ NAN) (h : bad l = true ∨ dt l = false ∧ ex l = false) : docF l = ([], 3) := by
  unfold docF; rw [if_neg h1, if_neg h2]
  rcases h with h | h
  · rw [if_pos h]
  · rw [if_pos h]; split <;> rfl
theorem docF_ok {l : List UInt8} (h1 : l.drop (sg0 l) ≠ INF) (h2 : l.drop (sg0 l) ≠ NAN) (h3 : bad l = false) (h : ¬ (dt l = false ∧ ex l = false)) : docF l = rd (tx l) := by
  unfold docF; rw [if_neg h1, if_neg h2, if_neg (by rw [h3]; simp), if_neg h]
theorem ret_tc {a b : ByteArray} {p q : Int} (h : a = b) (h' : p = q) : Ending.returned (.tuple #[.string a, .int .i64 p]) = .returned (.tuple #[.string b, .int .i64 q]) := by rw [h, h']

set_option maxHeartbeats 8000000 in
set_option maxRecDepth 100000 in
theorem fread_doc {l : List UInt8} {s : ByteArray} (w : World) (hs : s = txt l) (hm : l.length ≤ 100000) :
    Calls Tryz.prog 10 #[.string s] w fun e w' => e = .returned (.tuple #[.string (txt (docF l).1), .int .i64 (docF l).2]) ∧ Below w.heap.size w w' := by
  have HW := Lib.hid (where_ l)
  have HZ := Lib.hid (show s.size = l.length by rw [hs, txt_size])
  have HS := Lib.hid hs
  have hsz : s.size ≤ 100000 := by have := HZ.out; omega
  have w0 : sg0 l ≤ 1 := HW.out.s0
  have w1 : sg0 l ≤ s.size := by have := HW.out.s1; have := HZ.out; omega
  have w2 : p1 l ≤ s.size := by have := HW.out.a1; have := HZ.out; omega
  have w3 : p2 l ≤ s.size := by have := HW.out.a3; have := HZ.out; omega
  have w4 : p4 l ≤ s.size := by have := HW.out.a7; have := HZ.out; omega
  clear hs hm
  obtain ⟨G, hG⟩ : ∃ G, G = txt (mn l) := ⟨_, rfl⟩
  obtain ⟨N, hN⟩ : ∃ N, N = txt (R1 l).2 := ⟨_, rfl⟩
  obtain ⟨P, hP⟩ : ∃ P, P = txt (R2 l).2 := ⟨_, rfl⟩
  obtain ⟨Q, hQ⟩ : ∃ Q, Q = txt (R3 l).2 := ⟨_, rfl⟩
  obtain ⟨T2, hT2⟩ : ∃ T, T = txt (tx2 l) := ⟨_, rfl⟩
  obtain ⟨T3, hT3⟩ : ∃ T, T = txt (tx l) := ⟨_, rfl⟩
  have HG := Lib.hid hG
  have HN := Lib.hid hN
  have HP := Lib.hid hP
  have HQ := Lib.hid hQ
  have HT2 := Lib.hid hT2
  have HT3 := Lib.hid hT3
  have gz : G.size ≤ 1 := by rw [isz hG]; exact mn_len l
  have nz : N.size ≤ 100000 := by rw [isz hN]; have := HW.out.n1; have := HZ.out; omega
  have pz : P.size ≤ 100000 := by rw [isz hP]; have := HW.out.n2; have := HZ.out; omega
  have qz : Q.size ≤ 100000 := by rw [isz hQ]; have := HW.out.n3; have := HZ.out; omega
  have tz : T2.size ≤ 300000 := by
    rw [isz hT2]; unfold tx2
    have := HW.out.n1; have := HW.out.n2; have := mn_len l; have := HZ.out
    split <;> simp <;> omega
  clear hG hN hP hQ hT2 hT3
  have C1 := Lib.hid (fun w => frun_any (x := (sg0 l : Int)) (y := (p1 l : Int)) (T := N) (sg0 l) w HS.out HW.out.s1 (by have := HZ.out; omega) rfl (by show ((sg0 l + (R1 l).1 : Nat) : Int) = _; unfold R1; omega) HN.out)
  have C2 := Lib.hid (fun (h : dt l = true) (w : World) => frun_any (x := (p1 l : Int) + 1) (y := (p2 l : Int)) (T := P) (p1 l + 1) w HS.out (HW.out.a2 h) (by have := HZ.out; omega) (by omega) (by unfold p2; rw [if_pos h]; unfold R2; omega) HP.out)
  have C3 := Lib.hid (fun (h : ex l = true) (w : World) => frun_any (x := (p3 l : Int)) (y := (p4 l : Int)) (T := Q) (p3 l) w HS.out (HW.out.a6 h) (by have := HZ.out; omega) rfl (by unfold p4; rw [if_pos h]; unfold R3; omega) HQ.out)
  have C4 := Lib.hid (fun w => read_any (l := tx l) w HT3.out (by
    rw [tx_is]; unfold tx2 sx
    have := HW.out.n1; have := HW.out.n2; have := HW.out.n3; have := mn_len l; have := HZ.out
    clear HW HZ HS HG HN HP HQ HT2 HT3 C1 C2 C3
    have e1 : (if dt l = true then 46 :: (R2 l).2 else []).length ≤ 1 + (R2 l).2.length := by split <;> simp; omega
    have e2 : (if es l = true then [UInt8.ofNat (bt l (p2 l + 1)).toNat] else []).length ≤ 1 := by split <;> simp
    have e3 : (if ex l = true then 101 :: ((if es l = true then [UInt8.ofNat (bt l (p2 l + 1)).toNat] else []) ++ (R3 l).2) else []).length ≤ 2 + (R3 l).2.length := by
      split
      · simp only [List.length_cons, List.length_append]; omega
      · simp
    rw [List.length_append, List.length_append, List.length_append]
    omega))
  go_enter Tryz.func10, Tryz.ntmps10
  go_upto_region 3 with fail
  go_cut [25] (fun x wx => x = .bool (decide (sg0 l = 1)) ∧ w = wx)
  case first =>
    by_cases h : 0 < s.size
    · have hx := txt_at HS.out (k := 0)
      by_cases g : bt l 0 = 43
      · have E := Lib.hid (show sg0 l = 1 by unfold sg0; rw [if_pos (.inl g)])
        go_wp2_with fail
        go_meet
        exact ⟨by rw [E.out]; rfl, rfl⟩
      · by_cases g2 : bt l 0 = 45
        · have E := Lib.hid (show sg0 l = 1 by unfold sg0; rw [if_pos (.inr g2)])
          clear g
          go_wp2_with fail
          go_meet
          exact ⟨by rw [E.out]; rfl, rfl⟩
        · have E := Lib.hid (show sg0 l = 0 by unfold sg0; rw [if_neg (by omega)])
          have e1 : (bt l 0 == 43) = false := by simp [g]
          have e2 : (bt l 0 == 45) = false := by simp [g2]
          go_wp2_with fail
          go_meet
          exact ⟨by rw [E.out]; rfl, rfl⟩
    · have E := Lib.hid (show sg0 l = 0 by unfold sg0; rw [bt_far (by have := HZ.out; omega)]; rfl)
      go_wp2_with fail
      go_meet
      exact ⟨by rw [E.out]; rfl, rfl⟩
  case rest =>
    obtain ⟨rfl, rfl⟩ := hcut
    go_upto_if 25 with fail
    go_cut [4, 5] (fun x y wx => x = .int .i64 (sg0 l : Int) ∧ y = .string G ∧ w = wx)
    case first =>
      by_cases h : sg0 l = 1
      · have h0 : 0 < s.size := by omega
        have hx := txt_at HS.out (k := 0)
        have E := Lib.hid h
        rw [decide_eq_true h]
        clear h
        by_cases g : bt l 0 = 45
        · have EG := Lib.hid (show G = ⟨#[45]⟩ by rw [HG.out]; unfold mn; rw [if_pos g]; rfl)
          go_wp2_with fail
          go_meet
          exact ⟨by rw [E.out]; rfl, by rw [EG.out], rfl⟩
        · have EG := Lib.hid (show G = ⟨#[]⟩ by rw [HG.out]; unfold mn; rw [if_neg g]; rfl)
          go_wp2_with fail
          go_meet
          exact ⟨by rw [E.out]; rfl, by rw [EG.out], rfl⟩
      · have E := Lib.hid (show sg0 l = 0 by omega)
        have EG := Lib.hid (show G = ⟨#[]⟩ by
          rw [HG.out]; unfold mn
          rw [if_neg (fun g => h (by unfold sg0; rw [if_pos (.inr g)]))]; rfl)
        rw [decide_eq_false h]
        clear h
        go_wp2_with fail
        go_meet
        exact ⟨by rw [E.out]; rfl, by rw [EG.out], rfl⟩
    case rest =>
      obtain ⟨rfl, rfl, rfl⟩ := hcut
      have hqd := drop_txt (i := sg0 l) HS.out
      by_cases hi : l.drop (sg0 l) = INF
      · have E := Lib.hid (docF_inf hi)
        rw [hi] at hqd
        clear hi
        go_wp2_with fail
        go_ret2
        exact ⟨ret_tc (by rw [E.out, HG.out]; exact txt_app _ _) (by rw [E.out]), Below.refl _ _⟩
      have HI := Lib.hid hi
      have hq1 : ((s.extract (sg0 l) s.size).toList == [105, 110, 102]) = false := by rw [hqd]; simpa using hi
      clear hi
      by_cases hn : l.drop (sg0 l) = NAN
      · have E := Lib.hid (docF_nan HI.out hn)
        have hq2 : ((s.extract (sg0 l) s.size).toList == [110, 97, 110]) = true := by rw [hqd, hn]; rfl
        clear hn hqd
        go_wp2_with fail
        go_ret2
        exact ⟨ret_tc (by rw [E.out]; rfl) (by rw [E.out]), Below.refl _ _⟩
      have HNN := Lib.hid hn
      have hq2 : ((s.extract (sg0 l) s.size).toList == [110, 97, 110]) = false := by rw [hqd]; simpa using hn
      clear hn hqd
      have EBAD := Lib.hid (fun h => docF_bad HI.out HNN.out h)
      have EOK := Lib.hid (fun h => docF_ok HI.out HNN.out h)
      go_upto_region 12 with (go_at_call 24; refine (C1.out _).mono ?_; rintro e w' ⟨rfl, rfl⟩)
      clear hq1 hq2
      go_cut [56] (fun x wx => x = .bool (b1 l) ∧ w = wx)
      case first =>
        have he := txt_empty HN.out
        have hnb := rn_nb (l.drop (sg0 l)) false
        have hb1 : b1 l = !num (R1 l).2 := rfl
        by_cases g : (R1 l).2 = []
        · have E := Lib.hid (show b1 l = true by rw [hb1, g]; rfl)
          rw [decide_eq_true g] at he
          clear g hb1 hnb
          go_wp2_with fail
          go_meet
          exact ⟨by rw [E.out], rfl⟩
        · have hdg : digs (R1 l).2 = true := by unfold digs; rw [decide_eq_true g]; exact hnb
          have hlen : 0 < N.size := by rw [isz HN.out]; exact List.length_pos_iff.2 g
          have hx := txt_at HN.out (k := 0)
          have hh : ((R1 l).2.head? = some 48) ↔ bt (R1 l).2 0 = 48 := by
            cases hr : (R1 l).2 with
            | nil => exact absurd hr g
            | cons c r =>
              rw [bt_cons]
              simp only [List.head?_cons, Option.some.injEq]
              exact ⟨fun e => by rw [e]; rfl, fun e => UInt8.toNat_inj.1 (show c.toNat = 48 by omega)⟩
          have E0 : b1 l = decide (1 < N.size ∧ bt (R1 l).2 0 = 48) := by
            rw [hb1, num, hdg, isz HN.out]; simp only [hh]; simp
          rw [decide_eq_false g] at he
          have HE0 := Lib.hid E0
          clear g hb1 hnb hdg hh E0
          generalize bt (R1 l).2 0 = z at *
          by_cases g1 : z = 48
          · have g1' : (z == 48) = true := by simp [g1]
            by_cases g2 : 1 < N.size
            · have E := Lib.hid (show b1 l = true by rw [HE0.out]; simp [g1, g2])
              clear g1
              go_wp2_with fail
              go_meet
              exact ⟨by rw [E.out, decide_eq_true (by omega)], rfl⟩
            · have E := Lib.hid (show b1 l = false by rw [HE0.out]; simp [g2])
              clear g1
              go_wp2_with fail
              go_meet
              exact ⟨by rw [E.out, decide_eq_false (by omega)], rfl⟩
          · have g1' : (z == 48) = false := by simp [g1]
            have E := Lib.hid (show b1 l = false by rw [HE0.out]; simp [g1])
            go_wp2_with fail
            go_meet
            exact ⟨by rw [E.out], rfl⟩
      case rest =>
        obtain ⟨rfl, rfl⟩ := hcut
        by_cases hb : b1 l = true
        · have E := Lib.hid (EBAD.out (.inl (by unfold bad; rw [hb]; rfl)))
          rw [hb]
          clear hb
          go_wp2_with fail
          go_ret2
          exact ⟨ret_tc (by rw [E.out]; rfl) (by rw [E.out]), Below.refl _ _⟩
        have hb : b1 l = false := by simpa using hb
        rw [hb]
        have HB1 := Lib.hid hb
        clear hb
        go_upto_region 16 with fail
        obtain ⟨T1, hT1⟩ : ∃ T, T = G ++ N := ⟨_, rfl⟩
        have HT1 := Lib.hid (show T1 = txt (mn l ++ (R1 l).2) by rw [hT1, HG.out, HN.out, txt_app])
        have t1z : T1.size ≤ 100001 := by rw [isz HT1.out]; have := HW.out.n1; have := mn_len l; have := HZ.out; simp; omega
        rw [← hT1]
        clear hT1
        go_cut [69] (fun x wx => x = .bool (dt l) ∧ w = wx)
        case first =>
          by_cases h : p1 l < s.size
          · have hx := txt_at HS.out (k := p1 l)
            go_wp2_with fail
            go_meet
            exact ⟨by rw [eqd]; rfl, rfl⟩
          · have E := Lib.hid (show dt l = false by unfold dt; rw [bt_far (by have := HZ.out; omega)]; rfl)
            go_wp2_with fail
            go_meet
            exact ⟨by rw [E.out], rfl⟩
        case rest =>
          obtain ⟨rfl, rfl⟩ := hcut
          go_upto_if 69 with fail
          go_cut [4, 7, 8] (fun x y z wx => x = .int .i64 (p2 l : Int) ∧ y = .string T2 ∧ z = .bool (dt l) ∧ b2 l = false ∧ w = wx)
          case first =>
            by_cases hd : dt l = true
            · have CC := Lib.hid (C2.out hd)
              have h1 := HW.out.a2 hd
              have hlt : p1 l < s.size := by have := HZ.out; omega
              have he := txt_empty HP.out
              have HD := Lib.hid hd
              rw [hd]
              by_cases g : (R2 l).2 = []
              · have E := Lib.hid (EBAD.out (.inl (by unfold bad b2; rw [hd, g]; simp)))
                rw [decide_eq_true g] at he
                clear g hd h1
                go_wp2_with (go_at_call 24; refine (CC.out _).mono ?_; rintro e w' ⟨rfl, rfl⟩)
                go_ret2
                exact ⟨ret_tc (by rw [E.out]; rfl) (by rw [E.out]), Below.refl _ _⟩
              · have EB := Lib.hid (show b2 l = false by unfold b2; rw [decide_eq_false g]; simp)
                have ET := Lib.hid (show T1 ++ ⟨#[46]⟩ ++ P = T2 by
                  rw [HT1.out, HP.out, HT2.out, show (⟨#[46]⟩ : ByteArray) = txt [46] from rfl, txt_app, txt_app]; unfold tx2; rw [if_pos hd]; congr 1; simp)
                rw [decide_eq_false g] at he
                clear g hd h1
                go_wp2_with (go_at_call 24; refine (CC.out _).mono ?_; rintro e w' ⟨rfl, rfl⟩)
                go_meet
                exact ⟨rfl, by rw [ET.out], by rw [HD.out], EB.out, rfl⟩
            · have hd : dt l = false := by simpa using hd
              have E2 := Lib.hid (show p2 l = p1 l by unfold p2; rw [hd]; rfl)
              have EB := Lib.hid (show b2 l = false by unfold b2; rw [hd]; rfl)
              have ET := Lib.hid (show T1 = T2 by rw [HT1.out, HT2.out]; unfold tx2; rw [hd]; simp)
              have HD := Lib.hid hd
              rw [hd]
              clear hd
              go_wp2_with fail
              go_meet
              exact ⟨by rw [E2.out], by rw [ET.out], by rw [HD.out], EB.out, rfl⟩
          case rest =>
            obtain ⟨rfl, rfl, rfl, hb2, rfl⟩ := hcut
            have HB2 := Lib.hid hb2
            clear hb2
            go_upto_region 23 with fail
            go_cut [99] (fun x wx => x = .bool (ex l) ∧ w = wx)
            case first =>
              by_cases h : p2 l < s.size
              · have hx := txt_at HS.out (k := p2 l)
                by_cases g : bt l (p2 l) = 101
                · have E := Lib.hid (show ex l = true by simp [ex, g])
                  go_wp2_with fail
                  go_meet
                  exact ⟨by rw [E.out], rfl⟩
                · have E := Lib.hid (show ex l = decide (bt l (p2 l) = 69) by simp [ex, g])
                  go_wp2_with fail
                  go_meet
                  exact ⟨by rw [E.out, eqd, eqd]; simp [g], rfl⟩
              · have E := Lib.hid (show ex l = false by unfold ex; rw [bt_far (by have := HZ.out; omega)]; rfl)
                go_wp2_with fail
                go_meet
                exact ⟨by rw [E.out], rfl⟩
            case rest =>
              obtain ⟨rfl, rfl⟩ := hcut
              go_upto_if 99 with fail
              go_cut [4, 7, 8] (fun x y z wx => x = .int .i64 (p4 l : Int) ∧ y = .string T3 ∧ z = .bool (dt l || ex l) ∧ b3 l = false ∧ w = wx)
              case first =>
                by_cases hx0 : ex l = true
                · have CC := Lib.hid (C3.out hx0)
                  have h1 := HW.out.a4 hx0
                  have hlt : p2 l + 1 ≤ s.size := by have := HZ.out; omega
                  have HX := Lib.hid hx0
                  rw [hx0]
                  have EB0 := Lib.hid (show (R3 l).2 = [] → bad l = true from fun g => by unfold bad b3; rw [hx0, g]; simp)
                  have EB := Lib.hid (show (R3 l).2 ≠ [] → b3 l = false from fun g => by unfold b3; rw [decide_eq_false g]; simp)
                  have ET := Lib.hid (show ∀ Y : ByteArray, Y = txt (sx l) → T2 ++ ⟨#[101]⟩ ++ Y ++ Q = T3 from fun Y hY => by
                    rw [hY, HT2.out, HQ.out, HT3.out, tx_is, if_pos hx0, show (⟨#[101]⟩ : ByteArray) = txt [101] from rfl, txt_app, txt_app, txt_app]; congr 1; simp)
                  clear h1 hx0
                  go_upto_region 26 with fail
                  obtain ⟨T4, hT4⟩ : ∃ T, T = T2 ++ ⟨#[101]⟩ := ⟨_, rfl⟩
                  have t4z : T4.size ≤ 300001 := by
                    rw [hT4, ByteArray.size_append]
                    have : (⟨#[101]⟩ : ByteArray).size = 1 := rfl
                    omega
                  have HT4 := Lib.hid hT4
                  rw [← hT4]
                  clear hT4
                  go_cut [119] (fun x wx => x = .bool (es l) ∧ w = wx)
                  case first =>
                    by_cases h : p2 l + 1 < s.size
                    · have hx := txt_at HS.out (k := p2 l + 1)
                      by_cases g : bt l (p2 l + 1) = 43
                      · have E := Lib.hid (show es l = true by simp [es, g])
                        go_wp2_with fail
                        go_meet
                        exact ⟨by rw [E.out], rfl⟩
                      · have E := Lib.hid (show es l = decide (bt l (p2 l + 1) = 45) by simp [es, g])
                        go_wp2_with fail
                        go_meet
                        exact ⟨by rw [E.out, eqd, eqd]; simp [g], rfl⟩
                    · have E := Lib.hid (show es l = false by unfold es; rw [bt_far (by have := HZ.out; omega)]; rfl)
                      go_wp2_with fail
                      go_meet
                      exact ⟨by rw [E.out], rfl⟩
                  case rest =>
                    obtain ⟨rfl, rfl⟩ := hcut
                    go_upto_if 119 with fail
                    go_cut [4, 7] (fun x y wx => x = .int .i64 (p3 l : Int) ∧ (∃ Y : ByteArray, y = .string (T4 ++ Y) ∧ Y = txt (sx l)) ∧ w = wx)
                    case first =>
                      by_cases hes : es l = true
                      · have h2 := HW.out.a5 hes
                        have hlt2 : p2 l + 1 < s.size := by have := HZ.out; omega
                        have E3 := Lib.hid (show p3 l = p2 l + 1 + 1 by unfold p3; rw [if_pos hes])
                        have EY := Lib.hid (show s.extract (p2 l + 1) (p2 l + 1 + 1) = txt (sx l) by
                          rw [HS.out, ext_one (by have := HZ.out; omega)]; unfold sx; rw [if_pos hes]; congr 2
                          have : bt l (p2 l + 1) = ((l[p2 l + 1]'(by have := HZ.out; omega)).toNat : Int) := by simp [bt, show p2 l + 1 < l.length by have := HZ.out; omega]
                          rw [this]; simp)
                        rw [hes]
                        clear hes h2
                        go_wp2_with fail
                        go_meet
                        exact ⟨by rw [E3.out]; rfl, ⟨_, rfl, EY.out⟩, rfl⟩
                      · have hes : es l = false := by simpa using hes
                        have E3 := Lib.hid (show p3 l = p2 l + 1 by unfold p3; rw [hes]; rfl)
                        have EY := Lib.hid (show (⟨#[]⟩ : ByteArray) = txt (sx l) by unfold sx; rw [hes]; rfl)
                        have EA := Lib.hid (show T4 = T4 ++ ⟨#[]⟩ from (ByteArray.append_empty (b := T4)).symm)
                        rw [hes]
                        clear hes
                        go_wp2_with fail
                        go_meet
                        exact ⟨by rw [E3.out]; rfl, ⟨⟨#[]⟩, by rw [← EA.out], EY.out⟩, rfl⟩
                    case rest =>
                      obtain ⟨rfl, ⟨Y, rfl, hY⟩, rfl⟩ := hcut
                      have hyz : Y.size ≤ 1 := by rw [isz hY]; unfold sx; split <;> simp
                      have ETY := Lib.hid (show T4 ++ Y ++ Q = T3 by rw [HT4.out]; exact ET.out Y hY)
                      clear hY
                      have he := txt_empty HQ.out
                      obtain ⟨T5, hT5⟩ : ∃ T, T = T4 ++ Y := ⟨_, rfl⟩
                      have t5z : T5.size ≤ 300002 := by rw [hT5, ByteArray.size_append]; omega
                      rw [← hT5]
                      have ETY := Lib.hid (show T5 ++ Q = T3 by rw [hT5]; exact ETY.out)
                      clear hT5
                      by_cases g : (R3 l).2 = []
                      · have E := Lib.hid (EBAD.out (.inl (EB0.out g)))
                        rw [decide_eq_true g] at he
                        clear g
                        go_wp2_with (go_at_call 24; refine (CC.out _).mono ?_; rintro e w' ⟨rfl, rfl⟩)
                        go_ret2
                        exact ⟨ret_tc (by rw [E.out]; rfl) (by rw [E.out]), Below.refl _ _⟩
                      · have EB := Lib.hid (EB.out g)
                        rw [decide_eq_false g] at he
                        clear g
                        go_wp2_with (go_at_call 24; refine (CC.out _).mono ?_; rintro e w' ⟨rfl, rfl⟩)
                        go_meet
                        exact ⟨rfl, by rw [ETY.out], by rw [HX.out]; simp, EB.out, rfl⟩
                · have hx0 : ex l = false := by simpa using hx0
                  have E2 := Lib.hid (show p4 l = p2 l by unfold p4; rw [hx0]; rfl)
                  have EB := Lib.hid (show b3 l = false by unfold b3; rw [hx0]; rfl)
                  have ET := Lib.hid (show T2 = T3 by rw [HT2.out, HT3.out, tx_is, hx0]; simp)
                  have HX := Lib.hid hx0
                  rw [hx0]
                  clear hx0
                  go_wp2_with fail
                  go_meet
                  exact ⟨by rw [E2.out], by rw [ET.out], by rw [HX.out]; simp, EB.out, rfl⟩
              case rest =>
                obtain ⟨rfl, rfl, rfl, hb3, rfl⟩ := hcut
                have HB3 := Lib.hid hb3
                clear hb3
                by_cases h4 : p4 l < s.size
                · have E := Lib.hid (EBAD.out (.inl (bad_4 (by have := HZ.out; omega))))
                  go_wp2_with fail
                  go_ret2
                  exact ⟨ret_tc (by rw [E.out]; rfl) (by rw [E.out]), Below.refl _ _⟩
                · have HB := Lib.hid (show bad l = false by
                    unfold bad b4
                    rw [HB1.out, HB2.out, HB3.out, decide_eq_false (by have := HZ.out; omega)]; rfl)
                  by_cases hde : (dt l || ex l) = true
                  · have E := Lib.hid (EOK.out HB.out (fun h => by rw [h.1, h.2] at hde; cases hde))
                    rw [hde]
                    clear hde
                    go_wp2_with (go_at_call 25; refine (C4.out _).mono ?_; rintro e w1 ⟨rfl, hb⟩)
                    have HBW := Lib.hid hb
                    clear hb
                    go_wp2_with fail
                    go_ret2
                    exact ⟨ret_tc (by rw [E.out]) (by rw [E.out]), HBW.out⟩
                  · have hde : (dt l || ex l) = false := by simpa using hde
                    have E := Lib.hid (EBAD.out (.inr (by simpa using hde)))
                    rw [hde]
                    clear hde
                    go_wp2_with fail
                    go_ret2
                    exact ⟨ret_tc (by rw [E.out]; rfl) (by rw [E.out]), Below.refl _ _⟩
end Fl
end Go.Proofs.YthjlnafmpcppfaaGreatDoor
