/- The program's own normal form as a text, walked. -/
import Derived.Test.YtggeiajbcehkjaaGreatDoorHab
import Derived.Sort.Grow
import Derived.Deep.RegionHeld3
import Derived.Test.YtggeiajbcehkjaaGreatDoorProg
namespace Go.Proofs.YtggeiajbcehkjaaGreatDoor.De
open Go.RowKit

/-- The library's table of powers lies as its text lays it. -/
def Tab (w : World) : Prop := Lib.TabIs Tryz.prog w "internal/strconv.uint64pow10" .u64 Lib.pow10Tab
theorem gPow : Tryz.prog.globalNamed "internal/strconv.uint64pow10" = some 2 := by kernel_rfl
theorem Tab.on {w w' : World} (h : Tab w) (hb : Below w.heap.size w w') : Tab w' := by
  unfold Tab Lib.TabIs World.var? at h ⊢
  rw [gPow] at h ⊢
  simp only [Option.bind_some] at h ⊢
  have hlt : 2 < w.heap.size := by
    rcases Nat.lt_or_ge 2 w.heap.size with h' | h'
    · exact h'
    · rw [Array.getElem?_eq_none h'] at h; cases h
  rw [hb.block _ hlt]
  exact h
theorem itoN_dec (n : Nat) : itoN n = Lib.decDigits n := by
  induction n using Nat.strongRecOn with
  | ind n ih =>
    rw [itoN, Lib.decDigits]
    by_cases h : n < 10
    · rw [if_pos h, dif_pos h]
    · rw [if_neg h, dif_neg h, ih (n / 10) (by omega)]
theorem itoL_itoa (n : Int) : itoL n = Lib.itoa n := by
  unfold itoL Lib.itoa
  rw [itoN_dec, itoN_dec]
  by_cases h : n < 0
  · rw [if_pos h, if_pos h, show (-n).toNat = n.natAbs by omega]
  · rw [if_neg h, if_neg h]
theorem itoa_is {n : Int} {x : ByteArray} (hx : x = txt (itoL n)) (h0 : -9223372036854775808 ≤ n) (h1 : n ≤ 9223372036854775807) (w : World) (ht : Tab w) :
    Calls Tryz.prog 213 #[.int .i64 n] w fun e w' => e = .returned (.string x) ∧ Below w.heap.size w w' := by
  refine (Tryz.strconv_Itoa n h0 h1 w ht).mono ?_
  rintro e w' ⟨rfl, k, os, rfl⟩
  exact ⟨by rw [hx, itoL_itoa]; rfl, ⟨rfl, rfl, rfl, by simp [Sort.grow], fun j hj => Sort.heap_grow_old _ _ hj⟩⟩
/-- Is it nought's normal form? -/
def ngt (m : Bool) (D : List UInt8) (x : Int) : Bool := decide (m = false ∧ D = [48] ∧ x = 0)
theorem nought_any {D : List UInt8} {m : Bool} {d : ByteArray} (x : Int) (w : World) (hd : d = txt D) :
    Calls Tryz.prog 212 #[fv m d x] w fun e w' => e = .returned (.bool (ngt m D x)) ∧ w' = w.alloc (fo m d x) := by
  go_enter Tryz.func212, Tryz.ntmps212
  go_wp2_with fail
  all_goals (go_ret; simp_all [ngt, txt_list])
theorem nought_is {D : List UInt8} {m : Bool} {d : ByteArray} {x : Int} (q : Bool) (w : World) (hd : d = txt D) (hq : q = ngt m D x) :
    Calls Tryz.prog 212 #[fv m d x] w fun e w' => e = .returned (.bool q) ∧ w' = w.alloc (fo m d x) := by subst hq; exact nought_any x w hd
/-- The normal form as a text. -/
def fmt (m : Bool) (D : List UInt8) (x : Int) : List UInt8 := if ngt m D x = true then [48] else mk m D x
structure TS (w : World) (d : ByteArray) (x : Int) (wr : World) : Prop where
  below : Below w.heap.size w wr
  more : w.heap.size < wr.heap.size
  c1 : wr.cell? ⟨w.heap.size, 1, none⟩ = some (.string d)
  c2 : wr.cell? ⟨w.heap.size, 2, none⟩ = some (.int .i64 x)
theorem TS.on {w : World} {d : ByteArray} {x : Int} {wr w' : World} (h : TS w d x wr) (hb : Below wr.heap.size wr w') : TS w d x w' :=
  ⟨h.below.trans (hb.mono h.below.size), Nat.lt_of_lt_of_le h.more hb.size, (hb.cell (by exact h.more)).trans h.c1, (hb.cell (by exact h.more)).trans h.c2⟩
theorem TS.drew {w : World} {d : ByteArray} {x : Int} {wr : World} (h : TS w d x wr) : TS w d x wr.drew := h.on ((Below.refl _ _).drew)
set_option maxRecDepth 100000 in
set_option maxHeartbeats 2000000 in
theorem text_any {D : List UInt8} {m : Bool} {d : ByteArray} (x : Int) (w : World) (ht : Tab w) (hd : d = txt D) (hD : D.length ≤ 3000000) (h1 : -1000000000 ≤ x) (h2 : x ≤ 1000000000) :
    Calls Tryz.prog 178 #[fv m d x] w fun e w' => e = .returned (.string (txt (fmt m D x))) ∧ Below w.heap.size w w' := by
  obtain ⟨q, hq⟩ : ∃ q, q = ngt m D x := ⟨_, rfl⟩
  have NG := Lib.hid (fun w => nought_is (d := d) q w hd hq)
  obtain ⟨t, htx⟩ : ∃ t, t = txt (itoL x) := ⟨_, rfl⟩
  obtain ⟨g, hg⟩ : ∃ g, g = txt (sg m) := ⟨_, rfl⟩
  have IT := Lib.hid (fun w => itoa_is htx (by omega) (by omega) w)
  have htl : t.size ≤ 1000000003 := by rw [htx, txt_size]; exact itoL_len h1 h2
  have hdl : d.size ≤ 3000000 := by rw [hd, txt_size]; omega
  have hgl : g.size ≤ 1 := by rw [hg, txt_size]; cases m <;> simp [sg]
  obtain ⟨y1, hy1⟩ : ∃ y, g ++ d = y := ⟨_, rfl⟩
  obtain ⟨y2, hy2⟩ : ∃ y, y1 ++ ⟨#[101]⟩ = y := ⟨_, rfl⟩
  obtain ⟨y3, hy3⟩ : ∃ y, y2 ++ t = y := ⟨_, rfl⟩
  have z1 : y1.size ≤ 3000001 := by rw [← hy1, ByteArray.size_append]; omega
  have z2 : y2.size ≤ 3000002 := by rw [← hy2, ByteArray.size_append]; show y1.size + 1 ≤ _; omega
  have n1 : ¬ (9223372036854775807 < g.size + d.size) := by omega
  have n2 : ¬ (9223372036854775807 < y1.size + 1) := by omega
  have n2' : ¬ (9223372036854775807 < y1.size + ByteArray.size ⟨#[101]⟩) := by show ¬ (9223372036854775807 < y1.size + 1); omega
  have n3 : ¬ (9223372036854775807 < y2.size + t.size) := by omega
  have HF := Lib.hid (show q = false → txt (fmt m D x) = y3 by
    intro h
    unfold fmt
    rw [← hq, h, if_neg (by simp)]
    unfold mk
    rw [← txt_app, ← txt_app, ← txt_app, ← hd, ← htx, ← hg, ← hy3, ← hy2, ← hy1]
    rfl)
  have HQ := Lib.hid (show q = true → fmt m D x = [48] by intro h; unfold fmt; rw [← hq, h, if_pos rfl])
  have HG0 := Lib.hid (show m = false → g = ⟨#[]⟩ by intro h; rw [hg, h]; rfl)
  have HG1 := Lib.hid (show m = true → g = ⟨#[45]⟩ by intro h; rw [hg, h]; rfl)
  have HT := Lib.hid ht
  have HY1 := Lib.hid hy1
  have HY2 := Lib.hid hy2
  have HY3 := Lib.hid hy3
  clear hd hq htx hg ht hD h1 h2 hy1 hy2 hy3
  go_enter Tryz.func178, Tryz.ntmps178
  go_wp2_with fail
  refine (NG.out _).mono ?_
  rintro e w1 ⟨rfl, rfl⟩
  cases q
  · have HF2 := Lib.hid (HF.out rfl)
    clear HF HQ NG
    obtain ⟨W, hW⟩ : ∃ W, W = (w.alloc (fo m d x)).alloc (fo m d x) := ⟨_, rfl⟩
    have hb : Below w.heap.size w W := by rw [hW]; exact ((Below.refl _ _).alloc (Nat.le_refl _) _).alloc (by simp) _
    have hc0 : W.cell? ⟨w.heap.size, 0, none⟩ = some (.bool m) := by rw [hW]; simp [go_sem]
    have hc1 : W.cell? ⟨w.heap.size, 1, none⟩ = some (.string d) := by rw [hW]; simp [go_sem]
    have hc2 : W.cell? ⟨w.heap.size, 2, none⟩ = some (.int .i64 x) := by rw [hW]; simp [go_sem]
    have hlt : w.heap.size < W.heap.size := by rw [hW]; simp; omega
    rw [← hW]
    clear hW
    have hS : TS w d x W := ⟨hb, hlt, hc1, hc2⟩
    have HS := Lib.hid hS
    clear hS hb hlt
    go_upto_if 7 with fail
    go_cut [3] (fun v wx => v = .string g ∧ W = wx)
    case first =>
      cases m
      · have E := Lib.hid (HG0.out rfl)
        go_wp2_with fail
        go_meet
        exact ⟨by rw [E.out], rfl⟩
      · have E := Lib.hid (HG1.out rfl)
        go_wp2_with fail
        go_meet
        exact ⟨by rw [E.out], rfl⟩
    case rest =>
      obtain ⟨rfl, rfl⟩ := hcut
      have hy1 := HY1.out
      have hy2 := HY2.out
      have hy3 := HY3.out
      have hS := HS.out
      go_upto_region 6 with fail
      go_region_held3 (fun wx => TS w d x wx ∧ wx.cell? ⟨w.heap.size, 1, none⟩ = some (.string d) ∧ wx.cell? ⟨w.heap.size, 2, none⟩ = some (.int .i64 x))
        (((try go_split_ands); refine (fun h => ⟨h, h.c1, h.c2⟩) ?_; first | assumption | exact TS.drew (by assumption) | (refine TS.on ?_ hb; assumption)))
        (((try go_split_ands); go_at_call 213; refine (IT.out _ (HT.out.on (TS.below (by assumption)))).mono ?_; rintro e w1 ⟨rfl, hb⟩))
      rename_i hS2
      go_wp2_with fail
      go_ret
      exact ⟨ret_str HF2.out.symm, hS2.1.below⟩
  · have HQ2 := Lib.hid (HQ.out rfl)
    clear HF HQ
    go_wp2_with fail
    go_ret
    exact ⟨ret_str (by rw [HQ2.out]; rfl), ((Below.refl _ _).alloc (Nat.le_refl _) _).alloc (by simp) _⟩
end Go.Proofs.YtggeiajbcehkjaaGreatDoor.De
/- Strings of JSON as lists of bytes: the reading, the writing, and what follows of them (lists alone, no program). -/
namespace Go.Proofs.YtggeiajbcehkjaaGreatDoor

namespace Qu
/-- A rune's bytes. -/
def pt (n : Nat) : List UInt8 :=
  if n < 128 then [UInt8.ofNat n]
  else if n < 2048 then [UInt8.ofNat (192 + n / 64), UInt8.ofNat (128 + n % 64)]
  else if n < 65536 then [UInt8.ofNat (224 + n / 4096), UInt8.ofNat (128 + n / 64 % 64), UInt8.ofNat (128 + n % 64)]
  else [UInt8.ofNat (240 + n / 262144), UInt8.ofNat (128 + n / 4096 % 64), UInt8.ofNat (128 + n / 64 % 64), UInt8.ofNat (128 + n % 64)]
/-- A digit of base 16. -/
def dig (c : UInt8) : Option Nat :=
  if 48 ≤ c.toNat ∧ c.toNat ≤ 57 then some (c.toNat - 48)
  else if 97 ≤ c.toNat ∧ c.toNat ≤ 102 then some (c.toNat - 97 + 10)
  else if 65 ≤ c.toNat ∧ c.toNat ≤ 70 then some (c.toNat - 65 + 10) else none
/-- A short escape's byte. -/
def short (c : UInt8) : Option UInt8 :=
  if c = 34 then some 34 else if c = 92 then some 92 else if c = 47 then some 47 else if c = 98 then some 8
  else if c = 102 then some 12 else if c = 110 then some 10 else if c = 114 then some 13 else if c = 116 then some 9 else none
/-- k digits: the number and the rest, or where it fails. -/
def hx : Nat → Nat → List UInt8 → Nat ⊕ (Nat × List UInt8)
  | 0, n, r => .inr (n, r)
  | _ + 1, _, [] => .inl 0
  | k + 1, n, c :: r => match dig c with
    | none => .inl 0
    | some d => match hx k (16 * n + d) r with
      | .inl j => .inl (j + 1)
      | .inr x => .inr x
inductive Un where
  | byte (b : UInt8)
  | rune (n : Nat)
inductive Step where
  | done (rest : List UInt8)
  | unit (k : Nat) (u : Un) (rest : List UInt8)
  | bad (k : Nat)
/-- The next unit. -/
def un : List UInt8 → Step
  | [] => .bad 0
  | c :: r =>
    if c = 34 then .done r
    else if c = 92 then
      match r with
      | [] => .bad 1
      | d :: r' => match short d with
        | some b => .unit 2 (.byte b) r'
        | none => if d = 117 then (match hx 4 0 r' with | .inl j => .bad (2 + j) | .inr x => .unit 6 (.rune x.1) x.2) else .bad 1
    else if c.toNat < 32 then .bad 0 else .unit 1 (.byte c) r
/-- The rune of a pair. -/
@[irreducible] def pair (n m : Nat) : Nat := 65536 + 1024 * (n - 55296) + (m - 56320)
def high (n : Nat) : Bool := decide (55296 ≤ n ∧ n ≤ 56319)
def low (n : Nat) : Bool := decide (56320 ≤ n ∧ n ≤ 57343)
/-- A text, or what is wrong (a half of a pair: true) and where. -/
inductive Res where
  | ok (t : List UInt8)
  | bad (half : Bool) (place : Nat)
def Res.pre (k : Nat) (t : List UInt8) : Res → Res
  | ok x => ok (t ++ x)
  | bad h a => bad h (k + a)
inductive Tok where
  | stop (r : Res)
  | go (k : Nat) (t : List UInt8) (rest : List UInt8)
/-- A unit, or a pair of them. -/
def tok (l : List UInt8) : Tok := match un l with
  | .bad k => .stop (.bad false k)
  | .done [] => .stop (.ok [])
  | .done (_ :: _) => .stop (.bad false 1)
  | .unit k (.byte b) r => .go k [b] r
  | .unit k (.rune n) r =>
    if high n then
      match un r with
      | .unit k2 (.rune m) r2 => if low m then .go (k + k2) (pt (pair n m)) r2 else .stop (.bad true 0)
      | _ => .stop (.bad true 0)
    else if low n then .stop (.bad true 0)
    else .go k (pt n) r

theorem hx_inr : ∀ (k n : Nat) (l : List UInt8) {x : Nat × List UInt8}, hx k n l = .inr x → l.length = k + x.2.length
  | 0, n, r, x, h => by simp [hx] at h; subst h; simp
  | k + 1, n, [], x, h => by simp [hx] at h
  | k + 1, n, c :: r, x, h => by
    simp only [hx] at h
    split at h
    · cases h
    · split at h
      · cases h
      · rename_i d hd y hy
        cases h
        have := hx_inr k _ r hy
        simp; omega
theorem hx_inl : ∀ (k n : Nat) (l : List UInt8) {j : Nat}, hx k n l = .inl j → j ≤ l.length ∧ j < k
  | 0, n, r, x, h => by simp [hx] at h
  | k + 1, n, [], x, h => by simp [hx] at h; omega
  | k + 1, n, c :: r, x, h => by
    simp only [hx] at h
    split at h
    · cases h; simp
    · split at h
      · rename_i d hd y hy
        cases h
        have := hx_inl k _ r hy
        simp; omega
      · cases h
/-- What stands behind makes no difference. -/
theorem hx_more : ∀ (k n : Nat) (l m : List UInt8), (∀ x, hx k n l = .inr x → hx k n (l ++ m) = .inr (x.1, x.2 ++ m)) ∧ (∀ j, hx k n l = .inl j → j < l.length → hx k n (l ++ m) = .inl j)
  | 0, n, r, m => by simp [hx]
  | k + 1, n, [], m => by simp [hx]
  | k + 1, n, c :: r, m => by
    have ih := fun d => hx_more k (16 * n + d) r m
    simp only [hx, List.cons_append]
    cases hd : dig c with
    | none => simp
    | some d =>
      simp only
      cases hh : hx k (16 * n + d) r with
      | inl j =>
        refine ⟨by simp, fun j' e hj => ?_⟩
        cases e
        simp at hj
        rw [(ih d).2 j hh hj]
      | inr y =>
        refine ⟨fun x e => ?_, by simp⟩
        cases e
        rw [(ih d).1 y hh]
theorem un_unit {l r : List UInt8} {k : Nat} {u : Un} (h : un l = .unit k u r) : l.length = k + r.length ∧ 1 ≤ k ∧ k ≤ 6 := by
  unfold un at h
  repeat' split at h
  all_goals first
    | cases h
    | skip
  all_goals first
    | (rename_i x hh; have := hx_inr _ _ _ hh; simp; omega)
    | (simp; try omega)
/-- A unit or a pair that is read: what it is. -/
theorem tok_go_is {l r t : List UInt8} {k : Nat} (h : tok l = .go k t r) :
    (∃ b, un l = .unit k (.byte b) r ∧ t = [b]) ∨ (∃ n, un l = .unit k (.rune n) r ∧ high n = false ∧ low n = false ∧ t = pt n) ∨
    (∃ n k1 k2 r1 m, un l = .unit k1 (.rune n) r1 ∧ high n = true ∧ un r1 = .unit k2 (.rune m) r ∧ low m = true ∧ k = k1 + k2 ∧ t = pt (pair n m)) := by
  unfold tok at h
  cases hu : un l with
  | bad k' => rw [hu] at h; cases h
  | done x => rw [hu] at h; cases x <;> cases h
  | unit k1 u r1 =>
    rw [hu] at h
    cases u with
    | byte b => cases h; exact .inl ⟨b, rfl, rfl⟩
    | rune n =>
      simp only at h
      cases hn : high n with
      | true =>
        rw [hn, if_pos rfl] at h
        cases hu2 : un r1 with
        | bad _ => rw [hu2] at h; cases h
        | done _ => rw [hu2] at h; cases h
        | unit k2 u2 r2 =>
          rw [hu2] at h
          cases u2 with
          | byte _ => cases h
          | rune m =>
            simp only at h
            cases hm : low m with
            | false => rw [hm] at h; cases h
            | true => rw [hm, if_pos rfl] at h; cases h; exact .inr (.inr ⟨n, k1, k2, r1, m, rfl, hn, hu2, hm, rfl, rfl⟩)
      | false =>
        rw [hn] at h
        cases hl : low n with
        | true => rw [hl] at h; cases h
        | false => rw [hl] at h; cases h; exact .inr (.inl ⟨n, rfl, hn, hl, rfl⟩)
theorem tok_go {l r t : List UInt8} {k : Nat} (h : tok l = .go k t r) : l.length = k + r.length ∧ 1 ≤ k ∧ k ≤ 12 := by
  rcases tok_go_is h with ⟨b, hb, _⟩ | ⟨n, hn, _⟩ | ⟨n, k1, k2, r1, m, h1, _, h2, _, e, _⟩
  · have := un_unit hb; omega
  · have := un_unit hn; omega
  · have := un_unit h1; have := un_unit h2; omega
def body (l : List UInt8) : Res :=
  match _h : tok l with
  | .stop r => r
  | .go k t r => (body r).pre k t
termination_by l.length
decreasing_by have := tok_go ‹_›; omega
theorem body_stop {l : List UInt8} {r : Res} (h : tok l = .stop r) : body l = r := by
  rw [body]; split <;> rename_i h2
  · rw [h] at h2; cases h2; rfl
  · rw [h] at h2; cases h2
theorem body_go {l r t : List UInt8} {k : Nat} (h : tok l = .go k t r) : body l = (body r).pre k t := by
  rw [body]; split <;> rename_i h2
  · rw [h] at h2; cases h2
  · rw [h] at h2; cases h2; rfl
/-- The reading of a string. -/
def rdq : List UInt8 → Res
  | 34 :: r => (body r).pre 1 []
  | _ => .bad false 0
/-- A byte as it is written. -/
def hxd (n : Nat) : UInt8 := if n < 10 then UInt8.ofNat (48 + n) else UInt8.ofNat (87 + n)
def esc (c : UInt8) : List UInt8 :=
  if c = 34 then [92, 34] else if c = 92 then [92, 92] else if c = 8 then [92, 98] else if c = 12 then [92, 102]
  else if c = 10 then [92, 110] else if c = 13 then [92, 114] else if c = 9 then [92, 116]
  else if c.toNat < 32 then [92, 117, 48, 48, hxd (c.toNat / 16), hxd (c.toNat % 16)] else [c]
def escs (t : List UInt8) : List UInt8 := t.flatMap esc
def wrq (t : List UInt8) : List UInt8 := 34 :: (escs t ++ [34])
end Qu
end Go.Proofs.YtggeiajbcehkjaaGreatDoor
/- Strings of JSON: what is written is read; nothing shorter is; a string that is cut; what stands behind (lists alone). -/
namespace Go.Proofs.YtggeiajbcehkjaaGreatDoor

namespace Qu
def Step.more (m : List UInt8) : Step → Step
  | .done r => .done (r ++ m)
  | .unit k u r => .unit k u (r ++ m)
  | .bad k => .bad k
theorem un_bad {l : List UInt8} {k : Nat} (h : un l = .bad k) : k ≤ l.length ∧ k < 6 := by
  unfold un at h
  repeat' split at h
  all_goals first
    | (cases h; done)
    | skip
  all_goals first
    | (rename_i hh; cases h; have := hx_inl _ _ _ hh; simp; omega)
    | (cases h; simp)
/-- What stands behind makes no difference, where it is not the end that is wrong. -/
theorem un_more {l m : List UInt8} (h : ∀ k, un l = .bad k → k < l.length) : un (l ++ m) = (un l).more m := by
  match l, h with
  | [], h => exact absurd (h 0 rfl) (by simp)
  | c :: r, h =>
    simp only [List.cons_append, un] at h ⊢
    split
    · rfl
    · rename_i h34
      simp only [h34, if_false] at h
      split
      · rename_i h92
        simp only [h92, if_true] at h
        match r, h with
        | [], h => exact absurd (h 1 rfl) (by simp)
        | d :: r', h =>
          simp only [List.cons_append] at h ⊢
          cases hs : short d with
          | some b => rfl
          | none =>
            simp only [hs] at h ⊢
            split
            · rename_i hd
              simp only [hd, if_true] at h
              cases hh : hx 4 0 r' with
              | inr x => rw [(hx_more 4 0 r' m).1 x hh]; rfl
              | inl j =>
                rw [hh] at h
                have := h (2 + j) rfl
                simp at this
                rw [(hx_more 4 0 r' m).2 j hh (by omega)]; rfl
            · rfl
      · split <;> rfl
theorem hx_head : ∀ (k n : Nat) (l : List UInt8) {x : Nat × List UInt8}, hx k n l = .inr x → ∃ p, l = p ++ x.2 ∧ p.length = k ∧ ∀ r', hx k n (p ++ r') = .inr (x.1, r')
  | 0, n, r, x, h => by simp [hx] at h; subst h; exact ⟨[], by simp, rfl, fun r' => rfl⟩
  | k + 1, n, [], x, h => by simp [hx] at h
  | k + 1, n, c :: r, x, h => by
    simp only [hx] at h
    cases hd : dig c with
    | none => rw [hd] at h; cases h
    | some d =>
      rw [hd] at h
      simp only at h
      cases hh : hx k (16 * n + d) r with
      | inl j => rw [hh] at h; cases h
      | inr y =>
        rw [hh] at h
        cases h
        obtain ⟨p, hp, hk, ha⟩ := hx_head k _ r hh
        exact ⟨c :: p, by rw [hp]; rfl, by simp [hk], fun r' => by simp only [List.cons_append, hx, hd, ha r']⟩
/-- A unit is a head of its own. -/
theorem un_head {l r : List UInt8} {k : Nat} {u : Un} (h : un l = .unit k u r) : ∃ p, l = p ++ r ∧ p.length = k ∧ ∀ r', un (p ++ r') = .unit k u r' := by
  match l with
  | [] => cases h
  | c :: s =>
    simp only [un] at h
    split at h
    · cases h
    · rename_i h34
      split at h
      · rename_i h92
        match s with
        | [] => cases h
        | d :: s' =>
          simp only at h
          cases hs : short d with
          | some b => rw [hs] at h; cases h; exact ⟨[c, d], rfl, rfl, fun r' => by simp [un, h92, hs]⟩
          | none =>
            rw [hs] at h
            simp only at h
            split at h
            · rename_i hd
              cases hh : hx 4 0 s' with
              | inl j => rw [hh] at h; cases h
              | inr x =>
                rw [hh] at h; cases h
                obtain ⟨p, hp, hk, ha⟩ := hx_head 4 0 s' hh
                exact ⟨c :: d :: p, by rw [hp]; rfl, by simp [hk], fun r' => by simp only [List.cons_append, un]; rw [if_neg h34, if_pos h92]; simp only [hs]; rw [if_pos hd, ha r']⟩
            · cases h
      · split at h
        · cases h
        · rename_i h92 h32
          cases h
          exact ⟨[c], rfl, rfl, fun r' => by simp [un, h34, h92, h32]⟩
/-- What is read, with more behind it. -/
theorem tok_head {l r t : List UInt8} {k : Nat} (h : tok l = .go k t r) : ∃ p, l = p ++ r ∧ p.length = k ∧ ∀ r', tok (p ++ r') = .go k t r' := by
  rcases tok_go_is h with ⟨b, hb, rfl⟩ | ⟨n, hn, h1, h2, rfl⟩ | ⟨n, k1, k2, r1, m, e1, h1, e2, h2, ek, et⟩
  · obtain ⟨p, hp, hk, ha⟩ := un_head hb
    exact ⟨p, hp, hk, fun r' => by rw [tok, ha r']⟩
  · obtain ⟨p, hp, hk, ha⟩ := un_head hn
    exact ⟨p, hp, hk, fun r' => by simp [tok, ha r', h1, h2]⟩
  · subst ek et
    obtain ⟨p, hp, hk, ha⟩ := un_head e1
    obtain ⟨q, hq, hj, hb⟩ := un_head e2
    exact ⟨p ++ q, by rw [hp, hq, List.append_assoc], by simp [hk, hj], fun r' => by rw [List.append_assoc, tok, ha]; simp only [h1, if_true]; rw [hb]; simp only [h2, if_true]⟩
theorem body_nil : body [] = .bad false 0 := body_stop (by rfl)
/-- A piece in front that is read by itself. -/
theorem body_on {p t : List UInt8} {k : Nat} (h : ∀ r', tok (p ++ r') = .go k t r') (r : List UInt8) : body (p ++ r) = (body r).pre k t := body_go (h r)
theorem pre_pre (a b : Nat) (s t : List UInt8) (x : Res) : (x.pre b t).pre a s = x.pre (a + b) (s ++ t) := by
  cases x <;> simp [Res.pre, Nat.add_assoc]
/-! ### Cut -/
theorem pre_ok {x : Res} {k : Nat} {s t : List UInt8} (h : x.pre k s = .ok t) : ∃ y, x = .ok y ∧ t = s ++ y := by
  cases x with
  | ok y => cases h; exact ⟨y, rfl, rfl⟩
  | bad _ _ => cases h
/-- Of a text that is read: the first token. -/
theorem body_ok {l t : List UInt8} (h : body l = .ok t) : (l = [34] ∧ t = []) ∨ ∃ k s r y, tok l = .go k s r ∧ body r = .ok y ∧ t = s ++ y := by
  cases ht : tok l with
  | go k s r =>
    rw [body_go ht] at h
    obtain ⟨y, hy, e⟩ := pre_ok h
    exact .inr ⟨k, s, r, y, rfl, hy, e⟩
  | stop x =>
    rw [body_stop ht] at h
    subst h
    refine .inl ?_
    unfold tok at ht
    cases hu : un l with
    | bad _ => rw [hu] at ht; cases ht
    | done x =>
      rw [hu] at ht
      match x, ht with
      | [], ht =>
        cases ht
        match l, hu with
        | c :: s, hu =>
          simp only [un] at hu
          split at hu
          · rename_i hc; cases hu; exact ⟨by rw [hc], rfl⟩
          · repeat' split at hu
            all_goals cases hu
    | unit k u r =>
      rw [hu] at ht
      cases u with
      | byte b => cases ht
      | rune n =>
        simp only at ht
        repeat' split at ht
        all_goals cases ht
def Cut (x : Res) (i : Nat) : Prop := x = .bad false i ∨ ∃ a, x = .bad true a ∧ a < i ∧ i < a + 12
theorem Cut.pre {x : Res} {i k : Nat} {t : List UInt8} (h : Cut x i) : Cut (x.pre k t) (k + i) := by
  rcases h with rfl | ⟨a, rfl, h1, h2⟩
  · exact .inl rfl
  · exact .inr ⟨k + a, rfl, by omega, by omega⟩
end Qu
end Go.Proofs.YtggeiajbcehkjaaGreatDoor
/- Strings of JSON: what is written is read; nothing shorter is; with more behind it is wrong (lists alone). -/
namespace Go.Proofs.YtggeiajbcehkjaaGreatDoor

namespace Qu
theorem byte_all {p : UInt8 → Bool} (h : (List.range 256).all (fun n => p (UInt8.ofNat n)) = true) (c : UInt8) : p c = true := by
  have := (List.all_eq_true.1 h) c.toNat (List.mem_range.2 c.toNat_lt)
  simpa using this
theorem escs_cons (c : UInt8) (t : List UInt8) : escs (c :: t) = esc c ++ escs t := rfl
theorem escs_app (s t : List UInt8) : escs (s ++ t) = escs s ++ escs t := by simp [escs]
theorem rdq_cons (r : List UInt8) : rdq (34 :: r) = (body r).pre 1 [] := rfl
theorem wrq_len (t : List UInt8) : (wrq t).length = (escs t).length + 2 := by simp [wrq]
/-! ### Nothing shorter -/
theorem dig_lt {c : UInt8} {d : Nat} (h : dig c = some d) : d < 16 := by
  unfold dig at h
  split at h
  · cases h; omega
  · split at h
    · cases h; omega
    · split at h
      · cases h; omega
      · cases h
theorem hx_lt : ∀ (k n : Nat) (l : List UInt8) {x : Nat × List UInt8}, hx k n l = .inr x → x.1 < (n + 1) * 16 ^ k
  | 0, n, r, x, h => by simp [hx] at h; subst h; simp
  | k + 1, n, [], x, h => by simp [hx] at h
  | k + 1, n, c :: r, x, h => by
    simp only [hx] at h
    cases hd : dig c with
    | none => rw [hd] at h; cases h
    | some d =>
      rw [hd] at h
      simp only at h
      cases hh : hx k (16 * n + d) r with
      | inl j => rw [hh] at h; cases h
      | inr y =>
        rw [hh] at h
        cases h
        have h1 := hx_lt k _ r hh
        have h2 := dig_lt hd
        have h3 : (16 * n + d + 1) * 16 ^ k ≤ ((n + 1) * 16) * 16 ^ k := Nat.mul_le_mul_right _ (by omega)
        rw [Nat.pow_succ, Nat.mul_comm (16 ^ k) 16, ← Nat.mul_assoc]
        omega
/-- What a unit is. -/
theorem un_rune {l r : List UInt8} {k n : Nat} (h : un l = .unit k (.rune n) r) : k = 6 ∧ n < 65536 := by
  unfold un at h
  repeat' split at h
  all_goals first
    | cases h
    | skip
  rename_i x hh
  have := hx_lt _ _ _ hh
  exact ⟨rfl, by simpa using this⟩
theorem short_esc {d b : UInt8} (h : short d = some b) : (esc b).length ≤ 2 := by
  have := byte_all (p := fun d => match short d with | some b => decide ((esc b).length ≤ 2) | none => true) (by decide +kernel) d
  simpa [h] using this
theorem esc_one {c : UInt8} (h1 : c ≠ 34) (h2 : c ≠ 92) (h3 : ¬ c.toNat < 32) : esc c = [c] := by
  have := byte_all (p := fun c => c == 34 || c == 92 || decide (c.toNat < 32) || esc c == [c]) (by decide +kernel) c
  simpa [h1, h2, h3] using this
theorem un_byte {l r : List UInt8} {k : Nat} {b : UInt8} (h : un l = .unit k (.byte b) r) : (esc b).length ≤ k := by
  unfold un at h
  repeat' split at h
  all_goals first
    | (cases h; done)
    | skip
  · rename_i hs; cases h; exact short_esc hs
  · rename_i h1 h2 h3; cases h; rw [esc_one h1 h2 h3]; simp
theorem esc_len6 (c : UInt8) : (esc c).length ≤ 6 := by
  have := byte_all (p := fun c => decide ((esc c).length ≤ 6)) (by decide +kernel) c
  simpa using this
theorem esc_high {n : Nat} (h1 : 128 ≤ n) (h2 : n < 256) : (esc (UInt8.ofNat n)).length = 1 := by
  have e : (UInt8.ofNat n).toNat = n := by simp; omega
  rw [esc_one]
  · rfl
  · intro h; rw [h] at e; simp at e; omega
  · intro h; rw [h] at e; simp at e; omega
  · omega
theorem escs_pt {n : Nat} (h : n < 65536) : (escs (pt n)).length ≤ 6 := by
  unfold pt
  split
  · have := esc_len6 (UInt8.ofNat n); simpa [escs] using this
  · split
    · have h1 := esc_high (n := 192 + n / 64) (by omega) (by omega)
      have h2 := esc_high (n := 128 + n % 64) (by omega) (by omega)
      simp only [escs, List.flatMap_cons, List.flatMap_nil, List.length_append, List.length_nil]; omega
    · have h1 := esc_high (n := 224 + n / 4096) (by omega) (by omega)
      have h2 := esc_high (n := 128 + n / 64 % 64) (by omega) (by omega)
      have h3 := esc_high (n := 128 + n % 64) (by omega) (by omega)
      simp only [escs, List.flatMap_cons, List.flatMap_nil, List.length_append, List.length_nil]; omega
theorem high_is {n : Nat} (h : high n = true) : 55296 ≤ n ∧ n ≤ 56319 := by simpa [high] using h
theorem low_is {n : Nat} (h : low n = true) : 56320 ≤ n ∧ n ≤ 57343 := by simpa [low] using h
theorem pair_bd {n m : Nat} (h1 : high n = true) (h2 : low m = true) : 65536 ≤ pair n m ∧ pair n m ≤ 1114111 := by
  have := high_is h1; have := low_is h2
  unfold pair; omega
theorem pt_big {n : Nat} (h1 : 65536 ≤ n) (h2 : n ≤ 1114111) : (escs (pt n)).length = 4 := by
  unfold pt
  rw [if_neg (by omega), if_neg (by omega), if_neg (by omega)]
  have h1 := esc_high (n := 240 + n / 262144) (by omega) (by omega)
  have h2 := esc_high (n := 128 + n / 4096 % 64) (by omega) (by omega)
  have h3 := esc_high (n := 128 + n / 64 % 64) (by omega) (by omega)
  have h4 := esc_high (n := 128 + n % 64) (by omega) (by omega)
  simp only [escs, List.flatMap_cons, List.flatMap_nil, List.length_append, List.length_nil]; omega
theorem tok_short {l r t : List UInt8} {k : Nat} (h : tok l = .go k t r) : (escs t).length ≤ k := by
  rcases tok_go_is h with ⟨b, hb, rfl⟩ | ⟨n, hn, _, _, rfl⟩ | ⟨n, k1, k2, r1, m, e1, h1, e2, h2, ek, et⟩
  · have := un_byte hb; simpa [escs] using this
  · obtain ⟨hk, hn⟩ := un_rune hn; have := escs_pt hn; omega
  · have := un_rune e1; have := un_rune e2
    obtain ⟨p1, p2⟩ := pair_bd h1 h2
    have := pt_big p1 p2
    subst et; omega
theorem body_short : ∀ (N : Nat) {l t : List UInt8}, l.length ≤ N → body l = .ok t → (escs t).length + 1 ≤ l.length
  | 0, l, t, hN, h => by
    obtain rfl := List.eq_nil_of_length_eq_zero (Nat.le_zero.1 hN)
    rw [body_nil] at h; cases h
  | N + 1, l, t, hN, h => by
    rcases body_ok h with ⟨rfl, rfl⟩ | ⟨k, s, r, y, ht, hy, rfl⟩
    · simp [escs]
    · have h1 := tok_go ht
      have h2 := tok_short ht
      have h3 := body_short N (by omega) hy
      rw [escs_app, List.length_append]; omega
/-- Nothing shorter than what is written is read so. -/
theorem rdq_ok {l t : List UInt8} (h : rdq l = .ok t) : ∃ r, l = 34 :: r ∧ body r = .ok t := by
  unfold rdq at h
  split at h
  · obtain ⟨y, hy, e⟩ := pre_ok h
    exact ⟨_, rfl, by simpa [e] using hy⟩
  · cases h
theorem rdq_short {l t : List UInt8} (h : rdq l = .ok t) : (wrq t).length ≤ l.length := by
  obtain ⟨r, rfl, hr⟩ := rdq_ok h
  have := body_short r.length (Nat.le_refl _) hr
  rw [wrq_len]; simp; omega
/-! ### Cut, and with more behind -/
theorem tok_more {l : List UInt8} {hf : Bool} {a : Nat} (h : tok l = .stop (.bad hf a)) : a ≤ l.length ∧ ∀ m, a + 12 < l.length → tok (l ++ m) = .stop (.bad hf a) := by
  unfold tok at h
  cases hu : un l with
  | bad k =>
    rw [hu] at h
    cases h
    obtain ⟨h1, h2⟩ := un_bad hu
    refine ⟨h1, fun m hl => ?_⟩
    have := un_more (m := m) (l := l) (fun k e => by rw [hu] at e; cases e; omega)
    rw [tok, this, hu]; rfl
  | done x =>
    rw [hu] at h
    match x, h with
    | y :: x, h =>
      cases h
      have hl : 1 ≤ l.length := by
        match l, hu with
        | c :: s, _ => simp
      refine ⟨hl, fun m _ => ?_⟩
      have := un_more (m := m) (l := l) (fun k e => by rw [hu] at e; cases e)
      rw [tok, this, hu]; rfl
  | unit k u r =>
    rw [hu] at h
    have hlen := un_unit hu
    have hm1 := fun m => un_more (m := m) (l := l) (fun k e => by rw [hu] at e; cases e)
    cases u with
    | byte b => cases h
    | rune n =>
      have hk := (un_rune hu).1
      simp only at h
      cases hn : high n with
      | true =>
        rw [hn, if_pos rfl] at h
        have e : hf = true ∧ a = 0 := by
          split at h
          · split at h
            · cases h
            · cases h; exact ⟨rfl, rfl⟩
          · cases h; exact ⟨rfl, rfl⟩
        obtain ⟨rfl, rfl⟩ := e
        refine ⟨Nat.zero_le _, fun m hl => ?_⟩
        have hm2 := un_more (m := m) (l := r) (fun k e => by have := un_bad e; omega)
        rw [tok, hm1 m, hu]
        simp only [Step.more, hn, if_true]
        rw [hm2]
        cases hu2 : un r with
        | bad _ => rfl
        | done _ => rfl
        | unit k2 u2 r2 =>
          rw [hu2] at h
          cases u2 with
          | byte _ => rfl
          | rune m' =>
            simp only at h
            cases hl : low m' with
            | true => rw [hl] at h; cases h
            | false => simp [Step.more, hl]
      | false =>
        rw [hn] at h
        cases hl : low n with
        | true =>
          rw [hl] at h; cases h
          refine ⟨Nat.zero_le _, fun m _ => ?_⟩
          rw [tok, hm1 m, hu]
          simp [Step.more, hn, hl]
        | false => rw [hl] at h; cases h
theorem pre_bad {x : Res} {k a : Nat} {s : List UInt8} {h : Bool} (e : x.pre k s = .bad h a) : ∃ b, x = .bad h b ∧ a = k + b := by
  cases x with
  | ok y => cases e
  | bad _ b => cases e; exact ⟨b, rfl, rfl⟩
theorem body_more : ∀ (N : Nat) {l : List UInt8} {hf : Bool} {a : Nat}, l.length ≤ N → body l = .bad hf a → a ≤ l.length ∧ ∀ m, a + 12 < l.length → body (l ++ m) = .bad hf a := fun N => by
  induction N with
  | zero =>
    intro l hf a hN h
    obtain rfl := List.eq_nil_of_length_eq_zero (Nat.le_zero.1 hN)
    rw [body_nil] at h; cases h
    exact ⟨Nat.le_refl _, fun m hl => by simp at hl⟩
  | succ N ih =>
    intro l hf a hN h
    cases ht : tok l with
    | stop x =>
      rw [body_stop ht] at h
      subst h
      obtain ⟨h1, h2⟩ := tok_more ht
      exact ⟨h1, fun m hl => body_stop (h2 m hl)⟩
    | go k s r =>
      rw [body_go ht] at h
      obtain ⟨b, hb, rfl⟩ := pre_bad h
      have h1 := tok_go ht
      obtain ⟨i1, i2⟩ := ih (by omega) hb
      obtain ⟨p, hp, hk, ha⟩ := tok_head ht
      refine ⟨by omega, fun m hl => ?_⟩
      rw [hp, List.append_assoc, body_on ha, i2 m (by omega)]; rfl
theorem rdq_more {s : List UInt8} {hf : Bool} {a : Nat} (h : rdq s = .bad hf a) : a ≤ s.length ∧ ∀ m, a + 12 < s.length → rdq (s ++ m) = .bad hf a := by
  by_cases hs : ∃ r, s = 34 :: r
  · obtain ⟨r, rfl⟩ := hs
    rw [rdq_cons] at h
    obtain ⟨b, hb, rfl⟩ := pre_bad h
    obtain ⟨h1, h2⟩ := body_more r.length (Nat.le_refl _) hb
    refine ⟨by simp; omega, fun m hl => ?_⟩
    rw [List.cons_append, rdq_cons, h2 m (by simp at hl; omega)]; rfl
  · have e : ∀ s : List UInt8, (¬ ∃ r, s = 34 :: r) → rdq s = .bad false 0 := fun s hs => by
      unfold rdq
      split
      · exact absurd ⟨_, rfl⟩ hs
      · rfl
    rw [e s hs] at h
    cases h
    refine ⟨Nat.zero_le _, fun m hl => e _ ?_⟩
    rintro ⟨r, hr⟩
    match s, hl, hs, hr with
    | c :: s, _, hs, hr => exact hs ⟨s, by simp only [List.cons_append, List.cons.injEq] at hr; rw [hr.1]⟩
end Qu
end Go.Proofs.YtggeiajbcehkjaaGreatDoor
