/- What landed of values: how a key tells what is no list, and no map. -/
import Derived.Test.YtnnlgodgaolkkaaGreatDoorLqm
import Derived.Test.YtnnlgodgaolkkaaGreatDoorLim
import Derived.Test.YtnnlgodgaolkkaaGreatDoorShelfm
import Derived.Deep.RegionHeldLaw
namespace Go.Proofs.YtnnlgodgaolkkaaGreatDoor
open Go.RowKit
namespace Va
set_option maxRecDepth 100000

/-- How a key tells what is no list, and no map: its kind, its text quoted. -/
def naF (k : Nat) (t : Bs) : Bs := Lib.itoa (k : Nat) ++ Qu.wrq t
theorem dec_len : ∀ (j n : Nat), n < 10 ^ (j + 1) → (Lib.decDigits n).length ≤ j + 1
  | 0, n, h => by rw [Lib.decDigits, dif_pos (by simpa using h)]; simp
  | j + 1, n, h => by
    rw [Lib.decDigits]
    split
    · simp
    · have := dec_len j (n / 10) (by rw [Nat.pow_succ] at h; omega)
      simp; omega
theorem itoa_len {k : Nat} (h : k < 256) : (Lib.itoa (k : Nat)).length ≤ 3 := by
  rw [Lib.itoa, if_neg (by omega), Int.toNat_natCast]
  exact dec_len 2 k (by omega)
theorem itoa_dig {k : Nat} (h : k < 10) : Lib.itoa (k : Nat) = [UInt8.ofNat (48 + k)] := by
  rw [Lib.itoa, if_neg (by omega), Int.toNat_natCast, Lib.decDigits, dif_pos h]
/-- The library's table of powers. -/
def P10 (w : World) : Prop := Lib.TabIs Tryz.prog w "internal/strconv.uint64pow10" .u64 Lib.pow10Tab
theorem gPow : Tryz.prog.globalNamed "internal/strconv.uint64pow10" = some 2 := by kernel_rfl
theorem P10.on {Lo : Nat} {w w' : World} (h : P10 w) (hl : 2 < Lo) (hb : Below Lo w w') : P10 w' := by
  unfold P10 Lib.TabIs World.var? at h ⊢
  rw [gPow] at h ⊢
  simp only [Option.bind_some] at h ⊢
  rw [hb.block _ hl]
  exact h
/-- What keys stand on. -/
def TBN (base : Nat) (w : World) : Prop := TB base w ∧ P10 w ∧ 2 < base
theorem TBN.on {base : Nat} {w w' : World} (h : TBN base w) (hb : Below base w w') : TBN base w' := ⟨h.1.on hb, h.2.1.on h.2.2 hb, h.2.2⟩
theorem TBN.up {w w' : World} (h : TBN w.heap.size w) (hb : Below w.heap.size w w') : TBN w'.heap.size w' :=
  have h1 := h.on hb
  ⟨⟨h1.1.1, Nat.lt_of_lt_of_le h.1.2.1 hb.size, Nat.le_refl _⟩, h1.2.1, Nat.lt_of_lt_of_le h.2.2 hb.size⟩
set_option maxHeartbeats 4000000 in
theorem namedL_any {x : V} {v : Value} {base : Nat} (w : World) (hv : Vm w v x) (hT : TBN base w) (hx : wt x ≤ 1000000) :
    Calls Tryz.prog 42 #[v] w fun e w' => e = .returned (.string (txt (naF x.kind x.text))) ∧ Below w.heap.size w w' := by
  obtain ⟨k, t, l, ks⟩ := x
  obtain ⟨A, B, c, d, rfl, hk, _⟩ := hv.inv
  obtain ⟨T, hT'⟩ : ∃ T, T = txt t := ⟨_, rfl⟩
  have hwr : IntKind.i64.wrap ((k : Nat) : Int) = (k : Nat) := by simp [IntKind.wrap, IntKind.bits, IntKind.signed]; omega
  have CI := Lib.hid (fun (w' : World) (h : Below w.heap.size w w') => show Calls Tryz.prog 65 #[.int .i64 (IntKind.i64.wrap ((k : Nat) : Int))] w' fun e w'' => e = .returned (.string (txt (Lib.itoa (k : Nat)))) ∧ Below w'.heap.size w' w'' from
    hwr.symm ▸ (Tryz.strconv_Itoa (k : Nat) (by omega) (by omega) w' (hT.on (h.mono hT.1.2.2)).2.1).mono fun e w2 ⟨h1, q, os, h2⟩ => ⟨h1, h2 ▸ below_grow w' q os⟩)
  have CW := Lib.hid (fun (w' : World) (h : Below w.heap.size w w') => by
    have h9 := (hT.on (h.mono hT.1.2.2)).1
    exact qwrite_any w' hT' (by rw [wt] at hx; omega) h9.1 (Nat.lt_of_lt_of_le h9.2.1 h9.2.2))
  show Calls Tryz.prog 42 #[.agg #[.int .u8 k, .string (txt t), .slice A l.length c, .slice B ks.length d]] w fun e w' => e = .returned (.string (txt (naF k t))) ∧ Below w.heap.size w w'
  have E := txt_app (Lib.itoa (k : Nat)) (Qu.wrq t)
  have s1 : (txt (Lib.itoa (k : Nat))).size ≤ 3 := by rw [txt_size]; exact itoa_len hk
  have s2 : (txt (Qu.wrq t)).size ≤ 6000002 := by rw [txt_size]; have := wrq_len t; rw [wt] at hx; omega
  rw [← hT', naF, ← E]
  generalize txt (Lib.itoa (k : Nat)) = S1 at *
  generalize txt (Qu.wrq t) = S2 at *
  obtain ⟨n, hn⟩ : ∃ n, n = l.length := ⟨_, rfl⟩
  obtain ⟨m, hm⟩ : ∃ n, n = ks.length := ⟨_, rfl⟩
  rw [← hn, ← hm]
  clear hv hT' hx hT E hn hm hwr
  obtain ⟨W1, hW1⟩ : ∃ W, W = w.alloc (vO (.int .u8 k) (.string T) (.slice A n c) (.slice B m d)) := ⟨_, rfl⟩
  have hb1 : Below w.heap.size w W1 := by rw [hW1]; exact below_new ..
  have HX := Lib.hid (show Bx W1 w.heap.size (.int .u8 k) (.string T) (.slice A n c) (.slice B m d) from by rw [hW1]; exact Bx.new ..)
  have HB1 := Lib.hid hb1
  have HW1 := Lib.hid hW1
  clear hb1 hW1
  go_enter Tryz.func42, Tryz.ntmps42
  go_upto_region 1 with fail
  rw [← HW1.out]
  obtain ⟨h, hh⟩ : ∃ h, h = w.heap.size := ⟨_, rfl⟩
  rw [← hh] at HX ⊢
  clear HW1 hh
  have SS := Lib.hid (fun (X Y : World) (h1 : Below w.heap.size w X ∧ X.cell? ⟨h, 0, none⟩ = some (.int .u8 k) ∧ X.cell? ⟨h, 1, none⟩ = some (.string T)) (hb : Below X.heap.size X Y) =>
    show Below w.heap.size w Y ∧ Y.cell? ⟨h, 0, none⟩ = some (.int .u8 k) ∧ Y.cell? ⟨h, 1, none⟩ = some (.string T) from
      ⟨below_tr h1.1 hb, cell_old hb (World.block_lt_of_cell? X _ h1.2.1) h1.2.1, cell_old hb (World.block_lt_of_cell? X _ h1.2.1) h1.2.2⟩)
  have S0 := Lib.hid (show Below w.heap.size w W1.drew ∧ W1.drew.cell? ⟨h, 0, none⟩ = some (.int .u8 k) ∧ W1.drew.cell? ⟨h, 1, none⟩ = some (.string T) from ⟨HB1.out.drew, HX.out.c0, HX.out.c1⟩)
  go_region_held_law (fun X => Below w.heap.size w X ∧ X.cell? ⟨h, 0, none⟩ = some (.int .u8 k) ∧ X.cell? ⟨h, 1, none⟩ = some (.string T)) (first | exact S0.out | exact H2.out | exact H3.out)
    (first
      | (go_simp; go_at_call 65; refine (CI.out W1.drew S0.out.1).mono ?_; rintro e w2 ⟨rfl, hb⟩; have H2 := Lib.hid (SS.out _ _ S0.out hb); clear hb)
      | (go_simp; go_at_call 62; refine (CW.out w2 H2.out.1).mono ?_; rintro e w3 ⟨rfl, hb⟩; have H3 := Lib.hid (SS.out _ _ H2.out hb); clear hb))
  go_wp2_with fail
  go_ret
  exact ⟨by first | rfl | trivial, H3.out.1⟩
end Va
end Go.Proofs.YtnnlgodgaolkkaaGreatDoor
/- Keys, as lists: two values' keys are the same just if the values are. -/
namespace Go.Proofs.YtnnlgodgaolkkaaGreatDoor
open Go.RowKit
namespace Va
set_option maxRecDepth 100000

theorem tok_quote (r : Bs) : ∃ x, Qu.tok (34 :: r) = .stop x := by cases r <;> exact ⟨_, rfl⟩
/-- A quoted text ends where it ends. -/
theorem escs_pre : ∀ {t t' r r' : Bs}, Qu.escs t ++ 34 :: r = Qu.escs t' ++ 34 :: r' → t = t' ∧ r = r'
  | [], [], r, r', h => by
    have h : (34 :: r : Bs) = 34 :: r' := h
    injection h with _ h
    exact ⟨rfl, h⟩
  | [], c :: t', r, r', h => by
    have h : (34 :: r : Bs) = Qu.escs (c :: t') ++ 34 :: r' := h
    rw [Qu.escs_cons, List.append_assoc] at h
    have e := Qu.tok_esc c (Qu.escs t' ++ 34 :: r')
    obtain ⟨x, hx⟩ := tok_quote r
    rw [← h, hx] at e
    cases e
  | c :: t, [], r, r', h => by
    have h : Qu.escs (c :: t) ++ 34 :: r = (34 :: r' : Bs) := h
    rw [Qu.escs_cons, List.append_assoc] at h
    have e := Qu.tok_esc c (Qu.escs t ++ 34 :: r)
    obtain ⟨x, hx⟩ := tok_quote r'
    rw [h, hx] at e
    cases e
  | c :: t, c' :: t', r, r', h => by
    rw [Qu.escs_cons, Qu.escs_cons, List.append_assoc, List.append_assoc] at h
    have e := Qu.tok_esc c (Qu.escs t ++ 34 :: r)
    rw [h, Qu.tok_esc c' (Qu.escs t' ++ 34 :: r')] at e
    injection e with _ h1 h2
    injection h1 with h1
    obtain ⟨h3, h4⟩ := escs_pre h2.symm
    exact ⟨by rw [h1, h3], h4⟩
theorem wrq_pre {t t' r r' : Bs} (h : Qu.wrq t ++ r = Qu.wrq t' ++ r') : t = t' ∧ r = r' := by
  unfold Qu.wrq at h
  simp only [List.cons_append, List.append_assoc, List.nil_append] at h
  injection h with _ h
  exact escs_pre h
theorem naF_eq {k : Nat} (t : Bs) (h : k ≤ 8) : naF k t = UInt8.ofNat (48 + k) :: Qu.wrq t := by rw [naF, itoa_dig (by omega)]; rfl
theorem dig_ne {k : Nat} (h : k ≤ 8) {c : UInt8} (hc : 57 ≤ c.toNat ∨ c.toNat ≤ 47) : UInt8.ofNat (48 + k) ≠ c := fun e => by
  have := congrArg UInt8.toNat e
  rw [UInt8.toNat_ofNat_of_lt' (show 48 + k < 256 by omega)] at this
  omega
theorem dig_inj {k k' : Nat} (h : k ≤ 8) (h' : k' ≤ 8) (e : UInt8.ofNat (48 + k) = UInt8.ofNat (48 + k')) : k = k' := by
  have := congrArg UInt8.toNat e
  rw [UInt8.toNat_ofNat_of_lt' (show 48 + k < 256 by omega), UInt8.toNat_ofNat_of_lt' (show 48 + k' < 256 by omega)] at this
  omega
mutual
/-- The key of a value whose keys stand in order. -/
def kc : V → Bs
  | .mk k t l ks => if k = 7 then 91 :: ((cms (kcL l)).drop 1 ++ [93]) else if k = 8 then 123 :: ((cms (List.zipWith ent ks (kcL l))).drop 1 ++ [125]) else naF k t
def kcL : List V → List Bs
  | [] => []
  | x :: r => kc x :: kcL r
end
theorem kcL_map : ∀ l : List V, kcL l = l.map kc
  | [] => by rw [kcL]; rfl
  | x :: r => by rw [kcL, List.map_cons, kcL_map r]
mutual
theorem kc_can : ∀ {x : V}, pl x = true → teW naF x = kc (can x)
  | .mk k t l ks, h => by
    rw [pl, Bool.and_eq_true] at h
    have hh := of_decide_eq_true h.1
    have ih := kcL_can h.2
    by_cases h8 : k = 8
    · subst h8
      have e := hh.2.2.2.2.1 rfl
      rw [can_map, teW, kc, if_neg (by decide), if_pos rfl, if_neg (by decide), if_pos rfl, kcL_map, List.map_map, List.zipWith_map, List.zipWith_self]
      congr 4
      refine List.map_congr_left fun j hj => ?_
      have hj := ord_mem.1 hj
      obtain ⟨x, hx⟩ := get_lt (l := l) (i := j) (by omega)
      have e1 : (teWL naF l).getD j [] = kc (can x) := by
        rw [ih, kcL_map, List.getD_eq_getElem?_getD, List.getElem?_map, canL_some hx]; rfl
      rw [e1, Function.comp, can_at hx]
    · rw [can_no h8, teW, kc, ih]
      simp only [if_neg h8]
theorem kcL_can : ∀ {l : List V}, plL l = true → teWL naF l = kcL (canL l)
  | [], _ => by rw [teWL, canL, kcL]
  | x :: r, h => by
    rw [plL, Bool.and_eq_true] at h
    rw [teWL, canL, kcL, kc_can h.1, kcL_can h.2]
end
mutual
/-- A value's own parts are as its kind has them. -/
def ksh : V → Prop
  | .mk k t l ks => k ≤ 8 ∧ (7 ≤ k → t = []) ∧ (k < 7 → l = []) ∧ (if k = 8 then ks.length = l.length else ks = []) ∧ kshL l
def kshL : List V → Prop
  | [] => True
  | x :: r => ksh x ∧ kshL r
end
theorem kshL_of : ∀ {l : List V}, (∀ x ∈ l, ksh x) → kshL l
  | [], _ => by rw [kshL]; trivial
  | x :: r, h => by rw [kshL]; exact ⟨h x (List.mem_cons_self ..), kshL_of fun y hy => h y (List.mem_cons_of_mem _ hy)⟩
theorem kshL_mem : ∀ {l : List V}, kshL l → ∀ x ∈ l, ksh x
  | [], _, x, hx => by cases hx
  | y :: r, h, x, hx => by
    rw [kshL] at h
    rcases List.mem_cons.1 hx with rfl | hx
    · exact h.1
    · exact kshL_mem h.2 x hx
mutual
theorem ksh_can : ∀ {x : V}, pl x = true → ksh (can x)
  | .mk k t l ks, h => by
    rw [pl, Bool.and_eq_true] at h
    have hh := of_decide_eq_true h.1
    have ih := kshL_can h.2
    have ht : 7 ≤ k → t = [] := fun h7 => by
      have h2 := hh.2.2.2.1
      unfold tx at h2
      rwa [if_pos (by omega)] at h2
    rw [can]
    split
    · rename_i h8
      rw [ksh, if_pos rfl, List.length_map, List.length_map]
      refine ⟨by omega, fun _ => ht (by omega), fun h => absurd h (by omega), rfl, kshL_of fun x hx => ?_⟩
      obtain ⟨j, hj, rfl⟩ := List.mem_map.1 hx
      have hj := ord_mem.1 hj
      have hl : j < (canL l).length := by rw [canL_len, ← hh.2.2.2.2.1 h8]; exact hj
      rw [List.getD_eq_getElem?_getD, List.getElem?_eq_getElem hl]
      exact kshL_mem ih _ (List.getElem_mem hl)
    · rename_i h8
      rw [ksh, if_neg h8]
      refine ⟨hh.1, ht, fun h7 => ?_, by rcases hh.2.1 with e | e; exact absurd e h8; exact e, ih⟩
      have h0 : l.length = 0 := by rcases hh.2.2.1 with e | e <;> omega
      rw [List.eq_nil_of_length_eq_zero h0, canL]
theorem kshL_can : ∀ {l : List V}, plL l = true → kshL (canL l)
  | [], _ => by rw [canL, kshL]; trivial
  | x :: r, h => by
    rw [plL, Bool.and_eq_true] at h
    rw [canL, kshL]
    exact ⟨ksh_can h.1, kshL_can h.2⟩
end
/-- A key begins with no byte that ends another. -/
theorem kc_head {x : V} (h : ksh x) : ∃ c r, kc x = c :: r ∧ c ≠ 44 ∧ c ≠ 93 ∧ c ≠ 125 := by
  obtain ⟨k, t, l, ks⟩ := x
  rw [ksh] at h
  rw [kc]
  split
  · exact ⟨_, _, rfl, by decide, by decide, by decide⟩
  · split
    · exact ⟨_, _, rfl, by decide, by decide, by decide⟩
    · exact ⟨_, _, naF_eq t h.1, dig_ne h.1 (.inr (by decide)), dig_ne h.1 (.inl (by decide)), dig_ne h.1 (.inl (by decide))⟩
theorem cms_drop {L : List Bs} (h : L ≠ []) (r : Bs) : 44 :: ((cms L).drop 1 ++ r) = cms L ++ r := by
  cases L with
  | nil => exact absurd rfl h
  | cons t s => rfl
theorem cms_none {L : List Bs} (h : L = []) (r : Bs) : (cms L).drop 1 ++ r = r := by subst h; rfl
mutual
theorem kc_pre : ∀ {x y : V} {r r' : Bs}, ksh x → ksh y → kc x ++ r = kc y ++ r' → x = y ∧ r = r'
  | .mk k t l ks, .mk k' t' l' ks', r, r', hx, hy, h => by
    rw [ksh] at hx hy
    rw [kc, kc] at h
    by_cases h7 : k = 7
    · subst h7
      rw [if_pos rfl] at h
      by_cases h7' : k' = 7
      · subst h7'
        rw [if_pos rfl, List.cons_append, List.cons_append, List.append_assoc, List.append_assoc] at h
        injection h with _ h
        have hk : ks = [] := by simpa using hx.2.2.2.1
        have hk' : ks' = [] := by simpa using hy.2.2.2.1
        have hl : l = l' ∧ r = r' := by
          by_cases e : l = []
          · by_cases e' : l' = []
            · subst e e'
              have h : (93 :: r : Bs) = 93 :: r' := h
              injection h with _ h
              exact ⟨rfl, h⟩
            · exfalso
              subst e
              obtain ⟨y, s, rfl⟩ := List.exists_cons_of_ne_nil e'
              rw [kshL] at hy
              obtain ⟨c, q, hc, _, h93, _⟩ := kc_head hy.2.2.2.2.1
              have h : (93 :: r : Bs) = kc y ++ cms (kcL s) ++ (93 :: r') := h
              rw [hc] at h
              injection h with h _
              exact h93 h.symm
          · by_cases e' : l' = []
            · exfalso
              subst e'
              obtain ⟨y, s, rfl⟩ := List.exists_cons_of_ne_nil e
              rw [kshL] at hx
              obtain ⟨c, q, hc, _, h93, _⟩ := kc_head hx.2.2.2.2.1
              have h : kc y ++ cms (kcL s) ++ (93 :: r) = (93 :: r' : Bs) := h
              rw [hc] at h
              injection h with h _
              exact h93 h
            · have h := congrArg (List.cons (44 : UInt8)) h
              have ne : ∀ {l : List V}, l ≠ [] → kcL l ≠ [] := fun h0 e => h0 (by rw [kcL_map] at e; simpa using e)
              rw [cms_drop (ne e), cms_drop (ne e')] at h
              exact kcL_pre hx.2.2.2.2 hy.2.2.2.2 h
        obtain ⟨rfl, rfl⟩ := hl
        rw [hk, hk', hx.2.1 (by omega), hy.2.1 (by omega)]
        exact ⟨rfl, rfl⟩
      · rw [if_neg h7'] at h
        exfalso
        split at h
        · injection h with h _
          exact absurd h (by decide)
        · rw [naF_eq t' hy.1] at h
          injection h with h _
          exact dig_ne hy.1 (.inl (by decide)) h.symm
    · rw [if_neg h7] at h
      by_cases h8 : k = 8
      · subst h8
        rw [if_pos rfl] at h
        by_cases h7' : k' = 7
        · subst h7'
          rw [if_pos rfl] at h
          injection h with h _
          exact absurd h (by decide)
        · rw [if_neg h7'] at h
          by_cases h8' : k' = 8
          · subst h8'
            rw [if_pos rfl, List.cons_append, List.cons_append, List.append_assoc, List.append_assoc] at h
            injection h with _ h
            have hk : ks.length = l.length := by simpa using hx.2.2.2.1
            have hk' : ks'.length = l'.length := by simpa using hy.2.2.2.1
            have hl : l = l' ∧ ks = ks' ∧ r = r' := by
              by_cases e : l = []
              · by_cases e' : l' = []
                · subst e e'
                  have k0 : ks = [] := List.eq_nil_of_length_eq_zero hk
                  have k0' : ks' = [] := List.eq_nil_of_length_eq_zero hk'
                  subst k0 k0'
                  have h : (125 :: r : Bs) = 125 :: r' := h
                  injection h with _ h
                  exact ⟨rfl, rfl, h⟩
                · exfalso
                  subst e
                  have k0 : ks = [] := List.eq_nil_of_length_eq_zero hk
                  subst k0
                  obtain ⟨y, s, rfl⟩ := List.exists_cons_of_ne_nil e'
                  obtain ⟨c, q, rfl⟩ := List.exists_cons_of_ne_nil (l := ks') (fun e => by rw [e] at hk'; simp at hk')
                  have h : (125 :: r : Bs) = 34 :: _ := h
                  injection h with h _
                  exact absurd h (by decide)
              · by_cases e' : l' = []
                · exfalso
                  subst e'
                  have k0' : ks' = [] := List.eq_nil_of_length_eq_zero hk'
                  subst k0'
                  obtain ⟨y, s, rfl⟩ := List.exists_cons_of_ne_nil e
                  obtain ⟨c, q, rfl⟩ := List.exists_cons_of_ne_nil (l := ks) (fun e => by rw [e] at hk; simp at hk)
                  have h : (34 :: _ : Bs) = 125 :: r' := h
                  injection h with h _
                  exact absurd h (by decide)
                · have h := congrArg (List.cons (44 : UInt8)) h
                  have ne : ∀ {l : List V} {ks : List Bs}, ks.length = l.length → l ≠ [] → List.zipWith ent ks (kcL l) ≠ [] := fun {l ks} hl h0 e => h0 (by
                    have := congrArg List.length e
                    rw [kcL_map] at this
                    simp at this
                    rcases this with e | e
                    · subst e; exact List.eq_nil_of_length_eq_zero hl.symm
                    · exact e)
                  rw [cms_drop (ne hk e), cms_drop (ne hk' e')] at h
                  exact kcM_pre hk hk' hx.2.2.2.2 hy.2.2.2.2 h
            obtain ⟨rfl, rfl, rfl⟩ := hl
            rw [hx.2.1 (by omega), hy.2.1 (by omega)]
            exact ⟨rfl, rfl⟩
          · exfalso
            rw [if_neg h8', naF_eq t' hy.1] at h
            injection h with h _
            exact dig_ne hy.1 (.inl (by decide)) h.symm
      · rw [if_neg h8, naF_eq t hx.1] at h
        by_cases h7' : k' = 7
        · exfalso
          rw [if_pos h7'] at h
          injection h with h _
          exact dig_ne hx.1 (.inl (by decide)) h
        · rw [if_neg h7'] at h
          by_cases h8' : k' = 8
          · exfalso
            rw [if_pos h8'] at h
            injection h with h _
            exact dig_ne hx.1 (.inl (by decide)) h
          · rw [if_neg h8', naF_eq t' hy.1] at h
            injection h with h1 h2
            obtain rfl := dig_inj hx.1 hy.1 h1
            obtain ⟨rfl, rfl⟩ := wrq_pre h2
            have hk : ks = [] := by have := hx.2.2.2.1; rwa [if_neg h8] at this
            have hk' : ks' = [] := by have := hy.2.2.2.1; rwa [if_neg h8] at this
            rw [hk, hk', hx.2.2.1 (by omega), hy.2.2.1 (by omega)]
            exact ⟨rfl, rfl⟩
theorem kcL_pre : ∀ {l l' : List V} {r r' : Bs}, kshL l → kshL l' → cms (kcL l) ++ 93 :: r = cms (kcL l') ++ 93 :: r' → l = l' ∧ r = r'
  | [], [], r, r', _, _, h => by
    rw [kcL] at h
    have h : (93 :: r : Bs) = 93 :: r' := h
    injection h with _ h
    exact ⟨rfl, h⟩
  | [], _ :: _, _, _, _, _, h => by
    rw [kcL, kcL, cms, cms] at h
    injection h with h _
    exact absurd h (by decide)
  | _ :: _, [], _, _, _, _, h => by
    rw [kcL, kcL, cms, cms] at h
    injection h with h _
    exact absurd h (by decide)
  | x :: a, y :: b, r, r', hx, hy, h => by
    rw [kshL] at hx hy
    rw [kcL, kcL, cms, cms, List.cons_append, List.cons_append, List.append_assoc, List.append_assoc] at h
    injection h with _ h
    obtain ⟨h1, h2⟩ := kc_pre hx.1 hy.1 h
    obtain ⟨h3, h4⟩ := kcL_pre hx.2 hy.2 h2
    exact ⟨by rw [h1, h3], h4⟩
theorem kcM_pre : ∀ {l l' : List V} {ks ks' : List Bs} {r r' : Bs}, ks.length = l.length → ks'.length = l'.length → kshL l → kshL l' → cms (List.zipWith ent ks (kcL l)) ++ 125 :: r = cms (List.zipWith ent ks' (kcL l')) ++ 125 :: r' → l = l' ∧ ks = ks' ∧ r = r'
  | [], [], ks, ks', r, r', hk, hk', _, _, h => by
    obtain rfl : ks = [] := List.eq_nil_of_length_eq_zero hk
    obtain rfl : ks' = [] := List.eq_nil_of_length_eq_zero hk'
    have h : (125 :: r : Bs) = 125 :: r' := h
    injection h with _ h
    exact ⟨rfl, rfl, h⟩
  | [], y :: b, ks, ks', r, _, hk, hk', _, _, h => by
    obtain rfl : ks = [] := List.eq_nil_of_length_eq_zero hk
    obtain ⟨c, q, rfl⟩ := List.exists_cons_of_ne_nil (l := ks') (fun e => by rw [e] at hk'; simp at hk')
    rw [kcL, kcL, List.zipWith_cons_cons, cms] at h
    have h : (125 :: r : Bs) = 44 :: _ := h
    injection h with h _
    exact absurd h (by decide)
  | x :: a, [], ks, ks', _, r', hk, hk', _, _, h => by
    obtain rfl : ks' = [] := List.eq_nil_of_length_eq_zero hk'
    obtain ⟨c, q, rfl⟩ := List.exists_cons_of_ne_nil (l := ks) (fun e => by rw [e] at hk; simp at hk)
    rw [kcL, kcL, List.zipWith_cons_cons, cms] at h
    have h : (44 :: _ : Bs) = 125 :: r' := h
    injection h with h _
    exact absurd h (by decide)
  | x :: a, y :: b, ks, ks', r, r', hk, hk', hx, hy, h => by
    obtain ⟨c, q, rfl⟩ := List.exists_cons_of_ne_nil (l := ks) (fun e => by rw [e] at hk; simp at hk)
    obtain ⟨c', q', rfl⟩ := List.exists_cons_of_ne_nil (l := ks') (fun e => by rw [e] at hk'; simp at hk')
    rw [kshL] at hx hy
    rw [kcL, kcL, List.zipWith_cons_cons, List.zipWith_cons_cons, cms, cms, ent, ent, List.cons_append, List.cons_append, List.append_assoc, List.append_assoc, List.append_assoc, List.append_assoc] at h
    injection h with _ h
    obtain ⟨h1, h2⟩ := wrq_pre h
    rw [List.cons_append, List.cons_append] at h2
    injection h2 with _ h2
    obtain ⟨h3, h4⟩ := kc_pre hx.1 hy.1 h2
    obtain ⟨h5, h6, h7⟩ := kcM_pre (by simpa using hk) (by simpa using hk') hx.2 hy.2 h4
    exact ⟨by rw [h3, h5], by rw [h1, h6], h7⟩
end
/-- A value's key. -/
def kap (x : V) : Bs := if may x = true then teW naF x else []
theorem kap_no {x : V} (h : may x = false) : kap x = [] := by rw [kap, if_neg (by rw [h]; decide)]
theorem kap_yes {x : V} (h : may x = true) : kap x ≠ [] := by
  have hp := may_pl h
  obtain ⟨c, r, hc, _⟩ := kc_head (ksh_can hp)
  rw [kap, if_pos h, kc_can hp, hc]
  exact fun e => by cases e
theorem kap_one {x y : V} (hx : may x = true) (hy : may y = true) : kap x = kap y ↔ sm x y = true := by
  have px := may_pl hx
  have py := may_pl hy
  rw [kap, kap, if_pos hx, if_pos hy, kc_can px, kc_can py, sm_can px py]
  constructor
  · intro h
    exact (kc_pre (r := []) (r' := []) (ksh_can px) (ksh_can py) (by rw [h])).1
  · intro h; rw [h]
mutual
theorem naW_len : ∀ {x : V}, pl x = true → (teW naF x).length + 1 ≤ 8 * wt x
  | .mk k t l ks, h => by
    rw [pl, Bool.and_eq_true] at h
    have hh := of_decide_eq_true h.1
    have ih := naWL_len8 h.2
    have h3 : (teWL naF l).length = l.length := by rw [teWL_map]; simp
    rw [teW, wt]
    split
    · rw [List.length_cons, List.length_append, List.length_drop, cms_len]; simp; omega
    · split
      · rename_i h8
        have e := hh.2.2.2.2.1 h8
        have h1 := kw_perm ((ord_perm ks ks.length).map fun j => ent (ks.getD j []) ((teWL naF l).getD j []))
        have h2 := kw_ent ks (teWL naF l) (by rw [h3, e])
        rw [List.length_cons, List.length_append, List.length_drop, cms_len, h1, List.length_map, ord_len]
        generalize kw ((List.range ks.length).map fun j => ent (ks.getD j []) ((teWL naF l).getD j [])) = q at h2 ⊢
        rw [List.length_singleton]; omega
      · rw [naF_eq t hh.1, List.length_cons]
        have := wrq_len t; omega
theorem naWL_len8 : ∀ {l : List V}, plL l = true → (teWL naF l).length + kw (teWL naF l) ≤ 8 * wtL l
  | [], _ => by rw [teWL]; simp [kw]
  | x :: r, h => by
    rw [plL, Bool.and_eq_true] at h
    have h1 := naW_len h.1
    have h2 := naWL_len8 h.2
    rw [teWL, List.length_cons, kw, wtL]; omega
end
end Va
end Go.Proofs.YtnnlgodgaolkkaaGreatDoor
