/- A string's escapes at a place of it: what the next unit is (lists alone). -/
import Derived.Test.YtggeiajbcehkjaaGreatDoorGan
import Derived.Deep.RegionLaw
import Derived.Deep.RegionWith
import Derived.Deep.DeepCutAuto
import Derived.Deep.LoopGhost
namespace Go.Proofs.YtggeiajbcehkjaaGreatDoor
open Go.RowKit

theorem tkB_drop {l : List UInt8} {q : Nat} {c : UInt8} (h : tkB l q (c.toNat : Int) = true) : l.drop q = c :: l.drop (q + 1) := by
  obtain ⟨h1, h2⟩ := of_decide_eq_true h
  obtain ⟨d, hd, hb⟩ := drop_at h1
  rw [hd]
  have : d = c := UInt8.toNat_inj.1 (by omega)
  rw [this]
theorem drop_tkB {l r : List UInt8} {q : Nat} {c : UInt8} (h : l.drop q = c :: r) : tkB l q (c.toNat : Int) = true ∧ r = l.drop (q + 1) := by
  have hq : q < l.length := by
    rcases Nat.lt_or_ge q l.length with h1 | h1
    · exact h1
    · rw [List.drop_eq_nil_of_le h1] at h; cases h
  obtain ⟨d, hd, hb⟩ := drop_at hq
  rw [h] at hd
  injection hd with e1 e2
  subst e1
  exact ⟨by simp [tkB, hq, hb], e2⟩
namespace Qu
theorem short_u : short 117 = none := by decide
theorem un_u {r : List UInt8} : un (92 :: 117 :: r) = match hx 4 0 r with | .inl j => .bad (2 + j) | .inr x => .unit 6 (.rune x.1) x.2 := by
  simp only [un, short_u]
  rw [if_neg (by decide), if_pos trivial, if_pos trivial]
  cases hx 4 0 r <;> rfl
theorem un_rune_is {l r : List UInt8} {k n : Nat} (h : un l = .unit k (.rune n) r) : ∃ r', l = 92 :: 117 :: r' ∧ hx 4 0 r' = .inr (n, r) := by
  match l with
  | [] => cases h
  | c :: s =>
    simp only [un] at h
    split at h
    · cases h
    · split at h
      · rename_i h92
        match s with
        | [] => cases h
        | d :: s' =>
          simp only at h
          cases hs : short d with
          | some b => rw [hs] at h; cases h
          | none =>
            rw [hs] at h
            simp only at h
            split at h
            · rename_i hd
              cases hh : hx 4 0 s' with
              | inl j => rw [hh] at h; cases h
              | inr x => rw [hh] at h; cases h; exact ⟨s', by rw [h92, hd], hh⟩
            · cases h
      · split at h
        · cases h
        · cases h
end Qu
theorem un_at {l : List UInt8} {q : Nat} (h1 : tkB l q 92 = true) (h2 : tkB l (q + 1) 117 = true) : Qu.un (l.drop q) = match Qu.hx 4 0 (l.drop (q + 2)) with | .inl j => .bad (2 + j) | .inr x => .unit 6 (.rune x.1) x.2 := by
  rw [tkB_drop (c := 92) h1, tkB_drop (c := 117) h2, Qu.un_u]
theorem hx4_drop {l r : List UInt8} {p n : Nat} (h : Qu.hx 4 0 (l.drop p) = .inr (n, r)) : r = l.drop (p + 4) := by
  obtain ⟨u, hu, hk, _⟩ := Qu.hx_head 4 0 _ h
  have : (l.drop p).drop 4 = r := by rw [hu, ← hk]; simp
  rw [← this, List.drop_drop]
theorem lowQ_some {l : List UInt8} {p m : Nat} (h : lowQ l p = some m) : Qu.low m = true ∧ Qu.un (l.drop p) = .unit 6 (.rune m) (l.drop (p + 6)) := by
  unfold lowQ at h
  split at h
  · rename_i hh
    obtain ⟨h1, h2⟩ := hh
    cases hx : Qu.hx 4 0 (l.drop (p + 2)) with
    | inl j => rw [hx] at h; cases h
    | inr x =>
      rw [hx] at h
      simp only at h
      split at h
      · rename_i hl
        cases h
        refine ⟨hl, ?_⟩
        rw [un_at h1 h2, hx]
        obtain ⟨n, r⟩ := x
        rw [hx4_drop hx]
      · cases h
  · cases h
theorem lowQ_none {l : List UInt8} {p : Nat} (h : lowQ l p = none) : ∀ k m r, Qu.un (l.drop p) = .unit k (.rune m) r → Qu.low m = false := by
  intro k m r hu
  obtain ⟨r', hl, hx⟩ := Qu.un_rune_is hu
  obtain ⟨h1, e1⟩ := drop_tkB hl
  obtain ⟨h2, e2⟩ := drop_tkB (l := l) (q := p + 1) e1.symm
  rw [lowQ, if_pos ⟨h1, h2⟩, show p + 2 = p + 1 + 1 from rfl, ← e2, hx] at h
  simp only at h
  cases hm : Qu.low m with
  | false => rfl
  | true => rw [hm] at h; cases h
section
variable {l : List UInt8} {q : Nat}
theorem tok_esc_bad (h1 : tkB l q 92 = true) (h2 : tkB l (q + 1) 117 = true) {j : Nat} (h : Qu.hx 4 0 (l.drop (q + 2)) = .inl j) : Qu.tok (l.drop q) = .stop (.bad false (2 + j)) := by
  rw [Qu.tok, un_at h1 h2, h]
theorem tok_esc_low (h1 : tkB l q 92 = true) (h2 : tkB l (q + 1) 117 = true) {n : Nat} {r : List UInt8} (h : Qu.hx 4 0 (l.drop (q + 2)) = .inr (n, r)) (hh : Qu.high n = false) (hl : Qu.low n = true) : Qu.tok (l.drop q) = .stop (.bad true 0) := by
  rw [Qu.tok, un_at h1 h2, h]; simp [hh, hl]
theorem tok_esc_one (h1 : tkB l q 92 = true) (h2 : tkB l (q + 1) 117 = true) {n : Nat} {r : List UInt8} (h : Qu.hx 4 0 (l.drop (q + 2)) = .inr (n, r)) (hh : Qu.high n = false) (hl : Qu.low n = false) : Qu.tok (l.drop q) = .go 6 (Qu.pt n) (l.drop (q + 6)) := by
  have := hx4_drop h
  subst this
  rw [Qu.tok, un_at h1 h2, h]; simp [hh, hl]
theorem tok_esc_half (h1 : tkB l q 92 = true) (h2 : tkB l (q + 1) 117 = true) {n : Nat} {r : List UInt8} (h : Qu.hx 4 0 (l.drop (q + 2)) = .inr (n, r)) (hh : Qu.high n = true) (hl : lowQ l (q + 6) = none) : Qu.tok (l.drop q) = .stop (.bad true 0) := by
  have := hx4_drop h
  subst this
  rw [Qu.tok, un_at h1 h2, h]
  simp only [hh, if_true]
  split
  · rename_i k m r' e
    rw [lowQ_none hl k m r' e]; rfl
  · rfl
theorem tok_esc_pair (h1 : tkB l q 92 = true) (h2 : tkB l (q + 1) 117 = true) {n m : Nat} {r : List UInt8} (h : Qu.hx 4 0 (l.drop (q + 2)) = .inr (n, r)) (hh : Qu.high n = true) (hl : lowQ l (q + 6) = some m) : Qu.tok (l.drop q) = .go 12 (Qu.pt (Qu.pair n m)) (l.drop (q + 12)) := by
  have := hx4_drop h
  subst this
  obtain ⟨e1, e2⟩ := lowQ_some hl
  rw [Qu.tok, un_at h1 h2, h]
  simp only [hh, if_true]
  rw [e2]
  simp only [e1, if_true]
end
/-- A rune's bytes are the program's. -/
theorem puts_one {n : Nat} (h : n ≤ 1114111) (h1 : Qu.high n = false) (h2 : Qu.low n = false) : puts [(n : Int)] = Qu.pt n := by
  have hk : knw (n : Int) = n := by
    have a1 : ¬ (55296 ≤ n ∧ n ≤ 56319) := by simpa [Qu.high] using h1
    have a2 : ¬ (56320 ≤ n ∧ n ≤ 57343) := by simpa [Qu.low] using h2
    rw [knw, if_pos (by omega)]
  have e : putI [(n : Int)] = encI n := by
    show putTo [(n : Int)] 1 = _
    simp [putTo, it, hk]
  rw [puts, e]
  unfold encI Qu.pt
  by_cases c1 : n < 128
  · rw [if_pos (by omega), if_pos c1]; simp [b8]
  rw [if_neg (by omega), if_neg c1]
  by_cases c2 : n < 2048
  · rw [if_pos (by omega), if_pos c2]
    simp only [List.map_cons, List.map_nil, b8]
    rw [show (192 + (n : Int) / 64).toNat = 192 + n / 64 by omega, show (128 + (n : Int) % 64).toNat = 128 + n % 64 by omega]
  rw [if_neg (by omega), if_neg c2]
  by_cases c3 : n < 65536
  · rw [if_pos (by omega), if_pos c3]
    simp only [List.map_cons, List.map_nil, b8]
    rw [show (224 + (n : Int) / 4096).toNat = 224 + n / 4096 by omega, show (128 + (n : Int) / 64 % 64).toNat = 128 + n / 64 % 64 by omega, show (128 + (n : Int) % 64).toNat = 128 + n % 64 by omega]
  rw [if_neg (by omega), if_neg c3]
  simp only [List.map_cons, List.map_nil, b8]
  rw [show (240 + (n : Int) / 262144).toNat = 240 + n / 262144 by omega, show (128 + (n : Int) / 4096 % 64).toNat = 128 + n / 4096 % 64 by omega, show (128 + (n : Int) / 64 % 64).toNat = 128 + n / 64 % 64 by omega, show (128 + (n : Int) % 64).toNat = 128 + n % 64 by omega]
theorem pt_len (n : Nat) : (Qu.pt n).length ≤ 4 := by unfold Qu.pt; repeat' split
                                                      all_goals simp
end Go.Proofs.YtggeiajbcehkjaaGreatDoor
/- The reader's numbered escapes. -/
namespace Go.Proofs.YtggeiajbcehkjaaGreatDoor
open Go.RowKit

/-- What an escape's reading leaves, of the unit (or the pair) that begins at q. -/
def EscPost (W : World) (b : Nat) (s : ByteArray) (l : List UInt8) (q : Nat) (t : List UInt8) (e : Ending) (w' : World) : Prop :=
  (∃ hf a, Qu.tok (l.drop q) = .stop (.bad hf a) ∧ e = .returned (.int .i64 (if hf = true then 6 else 3)) ∧ RS W b s w' ((q + a : Nat) : Int) t) ∨
  (∃ k u, Qu.tok (l.drop q) = .go k u (l.drop (q + k)) ∧ 1 ≤ k ∧ q + k ≤ l.length ∧ u.length ≤ 4 * k ∧ e = .returned (.int .i64 0) ∧ RS W b s w' ((q + k : Nat) : Int) (t ++ u))
theorem num_one {w : World} (n : Int) (o : Obj) (h : o = .cells #[.int .i64 n] 3) : Num (w.alloc o).drew (w.alloc o).heap.size (some ⟨w.heap.size, 0, none⟩) [n] := by
  subst h
  refine fun _ => ⟨w.heap.size, 0, rfl, by simp, fun k hk => ?_⟩
  obtain rfl : k = 0 := by simpa using hk
  show (w.alloc _).cell? _ = _
  rw [World.cell?_alloc_at _ _ _ _ rfl]
  simp [it]
theorem Heads.old {W w : World} (h : Heads W) (hz : 3 < W.heap.size) (hb : Below W.heap.size W w) : Heads w := h.below hb hz
section
variable {W w : World} {b : Nat} {s : ByteArray} {q : Nat} {t l : List UInt8}
theorem puts1 {v : Value} {p : Int} (R : RV W b s w p t v) (hH : Heads W) (hz : 3 < W.heap.size) (n : Int) : Calls Tryz.prog 259 #[.slice (some ⟨w.heap.size, 0, none⟩) 1 1] (w.alloc (.cells #[.int .i64 n] 3)).drew
    (fun e w' => ∃ A c, e = .returned (.slice A (puts [n]).length c) ∧ Byt w' w'.heap.size A (puts [n]) ∧ (A = none → c = 0) ∧ RV W b s w' p t v) := by
  have R1 : RV W b s (w.alloc (.cells #[.int .i64 n] 3)).drew p t v := (R.alloc _).drew
  have hb := R1.1
  have hz1 : 3 < (w.alloc (.cells #[.int .i64 n] 3)).drew.heap.size := Nat.lt_of_lt_of_le hz hb.size
  refine (puts_any (l := [n]) (B := (w.alloc (.cells #[.int .i64 n] 3)).drew.heap.size) 1 1 rfl (num_one n _ rfl) (Nat.le_refl _) (by omega) (hH.old hz hb) hz1).mono ?_
  rintro e w' ⟨rfl, hown, hbel⟩
  rw [bytV_puts] at hown
  obtain ⟨A, c, e1, h1, h2, h3, h4, h5⟩ := own_form hown
  refine ⟨_, _, by rw [← h3], ?_, (fun h => by cases h), R1.below hbel⟩
  injection e1 with e1 e2 e3
  rw [e1]; exact h4
set_option maxRecDepth 100000 in
set_option maxHeartbeats 2000000 in
theorem numbered_any (h : RS W b s w ((q + 2 : Nat) : Int) t) (hs : s = txt l) (hl : l.length ≤ 1000000) (h1 : tkB l q 92 = true) (h2 : tkB l (q + 1) 117 = true) (ht : t.length ≤ 4 * q) (hH : Heads W) (hz : 3 < W.heap.size) :
    Calls Tryz.prog 241 #[.pointer (some ⟨b, 0, none⟩)] w (EscPost W b s l q t) := by
  obtain ⟨i0, hi, hz0, hz1, hz2⟩ := info_parts (show (Tryz.prog.info? 5).map (fun i => (i.zero, i.size, i.bytes)) = some (some (.int .u8 0), 1, 1) by kernel_rfl)
  obtain ⟨p, HP⟩ : ∃ p, Hid (p = q + 2) := ⟨_, rfl⟩
  have HR : Hid (RS W b s w (p : Int) t) := by rw [HP.out]; exact h
  have HS := Lib.hid hs
  have HL := Lib.hid hl
  have H1 := Lib.hid h1
  have H2 := Lib.hid h2
  have HT := Lib.hid ht
  have HH := Lib.hid hH
  have HPL : Hid (p ≤ l.length) := by rw [HP.out]; exact tkB_lt h2
  have hpe : (p : Int) - 2 = (q : Int) := by have := HP.out; omega
  have hp2 : p ≤ 1000000 := by have := HPL.out; omega
  obtain ⟨v0, R0⟩ := h.rv
  have c1 : w.cell? ⟨b, 1, none⟩ = some (.int .i64 p) := by rw [HP.out]; exact R0.cells.2.1
  clear h hs hl h1 h2 ht R0 v0 hH
  go_enter Tryz.func241, Tryz.ntmps241
  go_wp2_with fail
  clear c1 hpe hp2
  refine (number4_any HR.out HS.out HL.out HPL.out).mono ?_
  rintro e w1 (⟨j, e1, rfl, R1⟩ | ⟨n, e1, e2, e3, rfl, R1⟩)
  · have E1 := Lib.hid e1
    have HR1 := Lib.hid R1
    clear e1 R1
    go_wp2_with fail
    go_ret
    refine .inl ⟨false, 2 + j, tok_esc_bad H1.out H2.out (by rw [← HP.out]; exact E1.out), rfl, ?_⟩
    have := HR1.out
    rwa [show p + j = q + (2 + j) by have := HP.out; omega] at this
  · have E1 : Hid (Qu.hx 4 0 (l.drop (q + 2)) = .inr (n, l.drop (p + 4))) := by rw [← HP.out]; exact e1
    have E2 := Lib.hid e2
    have HR1 := Lib.hid R1
    have hn := e3
    obtain ⟨x, HX⟩ : ∃ x, Hid (x = Qu.high n) := ⟨_, rfl⟩
    clear e1 R1 e2 e3
    go_wp2_with fail
    refine (high_is HX.out _).mono ?_
    rintro e w2 ⟨rfl, rfl⟩
    go_upto_if 21 with fail
    go_cut [4] (fun y wx => ∃ (N k q' : Nat), y = .int .i64 N ∧ N ≤ 1114111 ∧ RS W b s wx (q' : Int) t ∧ (((Qu.high N = true ∨ Qu.low N = true) ∧ Qu.tok (l.drop q) = .stop (.bad true 0)) ∨ (Qu.high N = false ∧ Qu.low N = false ∧ Qu.tok (l.drop q) = .go k (Qu.pt N) (l.drop (q + k)) ∧ 1 ≤ k ∧ q + k ≤ l.length ∧ q' = q + k)))
    case first =>
      cases x
      · go_wp2_with fail
        go_meet
        refine ⟨n, 6, p + 4, rfl, by omega, HR1.out, ?_⟩
        have hh : Qu.high n = false := HX.out.symm
        cases hlw : Qu.low n with
        | true => exact .inl ⟨.inr rfl, tok_esc_low H1.out H2.out E1.out hh hlw⟩
        | false => exact .inr ⟨hh, rfl, tok_esc_one H1.out H2.out E1.out hh hlw, by omega, by have := E2.out; have := HP.out; omega, by have := HP.out; omega⟩
      · have hh : Qu.high n = true := HX.out.symm
        have HN := Lib.hid hh
        have hb := Qu.high_is hh
        obtain ⟨hb1, hb2⟩ := hb
        clear hh
        go_wp2_with fail
        refine (lowOne_any HR1.out HS.out HL.out E2.out).mono ?_
        rintro e w3 (⟨m, g1, g2, g3, rfl, R3⟩ | ⟨g1, m, q', rfl, R3⟩)
        · have G1 := Lib.hid g1
          have G3 := Lib.hid g3
          have HR3 := Lib.hid R3
          have hlm := (lowQ_some g1).1
          have hb3 := Qu.low_is hlm
          obtain ⟨hb3, hb4⟩ := hb3
          have HM := Lib.hid hlm
          clear g1 g3 R3 hlm g2
          go_wp2_with fail
          go_meet
          have hpr := Qu.pair_bd HN.out HM.out
          have hpe : (Qu.pair n m : Int) = 65536 + 1024 * ((n : Int) - 55296) + m - 56320 := by unfold Qu.pair; omega
          refine ⟨Qu.pair n m, 12, p + 10, by rw [hpe], hpr.2, ?_, .inr ⟨by simp [Qu.high]; omega, by simp [Qu.low]; omega, ?_, by omega, by have := G3.out; have := HP.out; omega, by have := HP.out; omega⟩⟩
          · exact HR3.out
          · exact tok_esc_pair H1.out H2.out E1.out HN.out (by have := G1.out; rwa [HP.out, show q + 2 + 4 = q + 6 by omega] at this)
        · have G1 := Lib.hid g1
          have HR3 := Lib.hid R3
          clear g1 R3
          go_wp2_with fail
          go_meet
          exact ⟨n, 0, q', rfl, by omega, HR3.out, .inl ⟨.inl HN.out, tok_esc_half H1.out H2.out E1.out HN.out (by have := G1.out; rwa [HP.out, show q + 2 + 4 = q + 6 by omega] at this)⟩⟩
    case rest =>
      obtain ⟨N, k, q', rfl, hN, R, hcase⟩ := hcut
      clear HX HR1 E1 E2 HR hn
      obtain ⟨v, RV1⟩ := R.rv
      have HV := Lib.hid RV1
      obtain ⟨c0, c1, c2, cf⟩ := RV1.cells
      have f1 := cf 1
      have f2 := cf 2
      clear cf RV1 R
      obtain ⟨x, HX⟩ : ∃ x, Hid (x = Qu.high N) := ⟨_, rfl⟩
      obtain ⟨y, HY⟩ : ∃ y, Hid (y = Qu.low N) := ⟨_, rfl⟩
      rcases hcase with ⟨hc1, hc2⟩ | ⟨hc1, hc2, hc3, hc4, hc5, hc6⟩
      · have HC := Lib.hid hc2
        have hq1 : (q : Int) ≤ 1000000 := by have := HPL.out; have := HP.out; have := HL.out; omega
        clear hc2
        cases x
        · cases y
          · exact absurd hc1 (by rw [← HX.out, ← HY.out]; simp)
          · clear hc1
            go_wp2_with fail
            refine (high_is HX.out _).mono ?_
            rintro e w3 ⟨rfl, rfl⟩
            go_wp2_with fail
            refine (low_is HY.out _).mono ?_
            rintro e w3 ⟨rfl, rfl⟩
            go_wp2_with fail
            go_ret
            exact .inl ⟨true, 0, HC.out, rfl, HV.out.rs.pos _⟩
        · clear hc1
          go_wp2_with fail
          refine (high_is HX.out _).mono ?_
          rintro e w3 ⟨rfl, rfl⟩
          go_wp2_with fail
          go_ret
          exact .inl ⟨true, 0, HC.out, rfl, HV.out.rs.pos _⟩
      · have HC := Lib.hid hc3
        have HC1 := Lib.hid hc1
        have HC2 := Lib.hid hc2
        have HC4 := Lib.hid hc4
        have HC5 := Lib.hid hc5
        have HC6 := Lib.hid hc6
        obtain rfl : x = false := by rw [HX.out]; exact hc1
        obtain rfl : y = false := by rw [HY.out]; exact hc2
        have htl : t.length ≤ 4000000 := by have := HT.out; have := HP.out; have := HPL.out; have := HL.out; omega
        have hpl : (puts [(N : Int)]).length ≤ 4 := by rw [puts_one hN hc1 hc2]; exact pt_len N
        have HU := Lib.hid (puts_one hN hc1 hc2)
        clear hc3 hc1 hc2 hc4 hc5 hc6
        go_wp2_with fail
        refine (high_is HX.out _).mono ?_
        rintro e w3 ⟨rfl, rfl⟩
        go_wp2_with fail
        refine (low_is HY.out _).mono ?_
        rintro e w3 ⟨rfl, rfl⟩
        go_wp2_with fail
        have ca := (HV.out.alloc (.cells #[.int .i64 N] 3)).cells.2.2.1
        go_region_law (first
          | (refine jstep_app rfl (.tmp 49) (.tmp 52) 41 rfl W.heap.size 5 i0 (.int .u8 0) 1 Tryz.underlying41 hi hz0 hz1 hz2 rfl v t.length (bytV t) rfl R4.2.2.2 A (puts [(N : Int)]).length c _ (puts [(N : Int)]) rfl rfl hA hnone (by unfold maxLen; omega) (by omega) R4.1.size ?_; intro v' w5 hown5 hg5; obtain ⟨⟨A', n', cp', rfl⟩, h5, R5⟩ := RV.text R4 hown5 hg5; obtain ⟨c0', c1', c2', cf'⟩ := rd_cells h5; have f2' := cf' 2; clear cf' h5 hown5 hg5)
          | (go_simp; go_at_call 259; refine (puts1 HV.out HH.out hz N).mono ?_; rintro e w4 ⟨A, c, rfl, hA, hnone, R4⟩; obtain ⟨d0, d1, d2, df⟩ := R4.cells; clear d0 d1 df))
        all_goals (have HR5 := Lib.hid R5; clear R5)
        all_goals go_wp2_with fail
        all_goals go_ret
        all_goals exact .inr ⟨k, Qu.pt N, HC.out, HC4.out, HC5.out, by have := pt_len N; have := HC4.out; omega, rfl, by have := HR5.out; rw [HU.out] at this; rwa [HC6.out] at this⟩
end
end Go.Proofs.YtggeiajbcehkjaaGreatDoor
