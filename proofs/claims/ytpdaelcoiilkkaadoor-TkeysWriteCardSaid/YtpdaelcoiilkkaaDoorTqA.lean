/- The small functions of TOML's strings: plain bytes, digits, runes' numbers; what a text begins with. -/
import Derived.Test.YtpdaelcoiilkkaaDoorTqW
import Derived.Test.YtpdaelcoiilkkaaDoorSmall
import Derived.BigQuiet
import Derived.Deep.QuietTactic
import Derived.Lib.Strings
namespace Go.Proofs.YtpdaelcoiilkkaaDoor
open Go.RowKit

theorem same_symm {P : Program} {f : FuncId} {args : Array Value} {w : World} {v : Value} (h : Calls P f args w fun e w' => e = .returned v ∧ w = w') : Calls P f args w fun e w' => e = .returned v ∧ w' = w :=
  h.mono fun _ _ ⟨a, b⟩ => ⟨a, b.symm⟩
/-- A digit's value; -1: none. -/
def dgI (c : Int) : Int := if 48 ≤ c ∧ c ≤ 57 then c - 48 else if 97 ≤ c ∧ c ≤ 102 then c - 87 else if 65 ≤ c ∧ c ≤ 70 then c - 55 else -1
theorem dgI_dig (c : UInt8) : dgI (c.toNat : Int) = match Qu.dig c with | some d => (d : Int) | none => -1 := by
  unfold dgI Qu.dig
  by_cases a : 48 ≤ c.toNat ∧ c.toNat ≤ 57
  · rw [if_pos (by omega), if_pos a]; simp only; omega
  rw [if_neg (by omega), if_neg a]
  by_cases a : 97 ≤ c.toNat ∧ c.toNat ≤ 102
  · rw [if_pos (by omega), if_pos a]; simp only; omega
  rw [if_neg (by omega), if_neg a]
  by_cases a : 65 ≤ c.toNat ∧ c.toNat ≤ 70
  · rw [if_pos (by omega), if_pos a]; simp only; omega
  rw [if_neg (by omega), if_neg a]
theorem dgI_bd (c : Int) : -1 ≤ dgI c ∧ dgI c ≤ 15 := by unfold dgI; repeat' split
                                                         all_goals omega
theorem sub8 {c k : Int} (h : k ≤ c) (h0 : 0 ≤ k) (h1 : c ≤ 255) : IntKind.u8.wrap (c - k) = c - k := by rw [IntKind.wrap_u8']; omega
theorem digit_any (c : Int) (h0 : 0 ≤ c) (h1 : c ≤ 255) (w : World) : Calls Tryd.prog 98 #[.int .u8 c] w fun e w' => e = .returned (.int .i64 (dgI c)) ∧ w = w' := by
  by_cases a1 : 48 ≤ c
  · by_cases a2 : c ≤ 57
    · have E := Lib.hid (show dgI c = c - 48 by rw [dgI, if_pos (by omega)])
      have hw := sub8 (c := c) (k := 48) (by omega) (by omega) h1
      have hw2 := h1
      go_enter Tryd.func98, Tryd.ntmps98
      go_wp2_with fail
      go_ret
      exact ⟨ret_int (by rw [E.out]; try omega), rfl⟩
    · by_cases b1 : 97 ≤ c
      · by_cases b2 : c ≤ 102
        · have E := Lib.hid (show dgI c = c - 87 by rw [dgI, if_neg (by omega), if_pos (by omega)])
          have hw := sub8 (c := c) (k := 97) (by omega) (by omega) h1
          have hw2 := h1
          go_enter Tryd.func98, Tryd.ntmps98
          go_wp2_with fail
          go_ret
          exact ⟨ret_int (by rw [E.out]; try omega), rfl⟩
        · have E := Lib.hid (show dgI c = -1 by rw [dgI, if_neg (by omega), if_neg (by omega), if_neg (by omega)])
          go_enter Tryd.func98, Tryd.ntmps98
          go_wp2_with fail
          go_ret
          exact ⟨ret_int (by rw [E.out]; try omega), rfl⟩
      · by_cases d1 : 65 ≤ c
        · by_cases d2 : c ≤ 70
          · have E := Lib.hid (show dgI c = c - 55 by rw [dgI, if_neg (by omega), if_neg (by omega), if_pos (by omega)])
            have hw := sub8 (c := c) (k := 65) (by omega) (by omega) h1
            have hw2 := h1
            go_enter Tryd.func98, Tryd.ntmps98
            go_wp2_with fail
            go_ret
            exact ⟨ret_int (by rw [E.out]; try omega), rfl⟩
          · have E := Lib.hid (show dgI c = -1 by rw [dgI, if_neg (by omega), if_neg (by omega), if_neg (by omega)])
            go_enter Tryd.func98, Tryd.ntmps98
            go_wp2_with fail
            go_ret
            exact ⟨ret_int (by rw [E.out]; try omega), rfl⟩
        · have E := Lib.hid (show dgI c = -1 by rw [dgI, if_neg (by omega), if_neg (by omega), if_neg (by omega)])
          go_enter Tryd.func98, Tryd.ntmps98
          go_wp2_with fail
          go_ret
          exact ⟨ret_int (by rw [E.out]; try omega), rfl⟩
  · have E := Lib.hid (show dgI c = -1 by rw [dgI, if_neg (by omega), if_neg (by omega), if_neg (by omega)])
    go_enter Tryd.func98, Tryd.ntmps98
    go_wp2_with fail
    go_ret
    exact ⟨ret_int (by rw [E.out]; try omega), rfl⟩
theorem plainJ_any (c : Int) (w : World) : Calls Tryd.prog 51 #[.int .u8 c] w fun e w' => e = .returned (.bool (plJ c)) ∧ w = w' := by
  by_cases h1 : c = 9
  · subst h1
    go_enter Tryd.func51, Tryd.ntmps51
    go_wp2_with fail
    go_ret
    exact ⟨rfl, rfl⟩
  · have d1 : (c == 9) = false := by simp [h1]
    by_cases h2 : 32 ≤ c
    · by_cases h3 : c = 127
      · subst h3
        go_enter Tryd.func51, Tryd.ntmps51
        go_wp2_with fail
        go_ret
        exact ⟨rfl, rfl⟩
      · have E := Lib.hid (show plJ c = true by simp [plJ]; omega)
        have d2 : (c != 127) = true := by simp [h3]
        go_enter Tryd.func51, Tryd.ntmps51
        go_wp2_with fail
        go_ret
        exact ⟨by rw [E.out]; rfl, rfl⟩
    · have E := Lib.hid (show plJ c = false by simp [plJ]; omega)
      go_enter Tryd.func51, Tryd.ntmps51
      go_wp2_with fail
      go_ret
      exact ⟨by rw [E.out]; rfl, rfl⟩
theorem plainJ_is {c : Int} {x : Bool} (hx : x = plJ c) (w : World) : Calls Tryd.prog 51 #[.int .u8 c] w fun e w' => e = .returned (.bool x) ∧ w = w' := hx ▸ plainJ_any c w
theorem digit_is {c x : Int} (hx : x = dgI c) (h0 : 0 ≤ c) (h1 : c ≤ 255) (w : World) : Calls Tryd.prog 98 #[.int .u8 c] w fun e w' => e = .returned (.int .i64 x) ∧ w = w' := hx ▸ digit_any c h0 h1 w
/-- Is a number a rune's? -/
def rnI (n : Int) : Bool := decide (0 ≤ n ∧ n ≤ 55295 ∨ 57344 ≤ n ∧ n ≤ 1114111)
theorem rnI_sur (n : Nat) : rnI n = !Tq.sur n := by
  unfold rnI Tq.sur
  by_cases h : 1114111 < n ∨ 55296 ≤ n ∧ n ≤ 57343
  · rw [decide_eq_false (by omega), decide_eq_true h]; rfl
  · rw [decide_eq_true (by omega), decide_eq_false h]; rfl
theorem isRune_any (n : Int) (w : World) : Calls Tryd.prog 99 #[.int .i64 n] w fun e w' => e = .returned (.bool (rnI n)) ∧ w = w' := by
  by_cases h1 : 0 ≤ n
  · by_cases h2 : n ≤ 55295
    · have E := Lib.hid (show rnI n = true by simp [rnI]; omega)
      go_enter Tryd.func99, Tryd.ntmps99
      go_wp2_with fail
      go_ret
      exact ⟨by rw [E.out]; rfl, rfl⟩
    · by_cases h3 : 57344 ≤ n
      · by_cases h4 : n ≤ 1114111
        · have E := Lib.hid (show rnI n = true by simp [rnI]; omega)
          go_enter Tryd.func99, Tryd.ntmps99
          go_wp2_with fail
          go_ret
          exact ⟨by rw [E.out]; rfl, rfl⟩
        · have E := Lib.hid (show rnI n = false by simp [rnI]; omega)
          go_enter Tryd.func99, Tryd.ntmps99
          go_wp2_with fail
          go_ret
          exact ⟨by rw [E.out]; rfl, rfl⟩
      · have E := Lib.hid (show rnI n = false by simp [rnI]; omega)
        go_enter Tryd.func99, Tryd.ntmps99
        go_wp2_with fail
        go_ret
        exact ⟨by rw [E.out]; rfl, rfl⟩
  · have E := Lib.hid (show rnI n = false by simp [rnI]; omega)
    have h3 : ¬ 57344 ≤ n := by omega
    go_enter Tryd.func99, Tryd.ntmps99
    go_wp2_with fail
    go_ret
    exact ⟨by rw [E.out]; rfl, rfl⟩
theorem isRune_is {n : Int} {x : Bool} (hx : x = rnI n) (w : World) : Calls Tryd.prog 99 #[.int .i64 n] w fun e w' => e = .returned (.bool x) ∧ w = w' := hx ▸ isRune_any n w
/-- Does a list begin with another one? -/
def hasP (l p : List UInt8) : Bool := decide (l.take p.length = p)
theorem stxt_inj {a b : List UInt8} (h : txt a = txt b) : a = b := by
  have : (txt a).data.toList = (txt b).data.toList := by rw [h]
  simpa [txt] using this
theorem stoList_txt (l : List UInt8) : (txt l).toList = l := by
  rw [Lib.toList_data]; rfl
theorem seq_txt {s t : ByteArray} {l m : List UInt8} (hs : s = txt l) (ht : t = txt m) : (s.toList == t.toList) = decide (l = m) := by
  rw [hs, ht, stoList_txt, stoList_txt]
  by_cases h : l = m
  · simp [h]
  · simp [h]
theorem hasPI_any {l p : List UInt8} {s t : ByteArray} (w : World) (hs : s = txt l) (ht : t = txt p) (hl : l.length ≤ 1000000) (hp : p.length ≤ 1000000) :
    Calls Tryd.prog 48 #[.string s, .string t] w fun e w' => e = .returned (.bool (hasP l p)) ∧ w = w' := by
  have HS := Lib.hid (show s.size = l.length by rw [hs, txt_size])
  have HT := Lib.hid (show t.size = p.length by rw [ht, txt_size])
  have hs1 : s.size ≤ 1000000 := by rw [HS.out]; exact hl
  have ht1 : t.size ≤ 1000000 := by rw [HT.out]; exact hp
  by_cases h : t.size ≤ s.size
  · obtain ⟨x, HX⟩ : ∃ x, Hid (x = hasP l p) := ⟨_, rfl⟩
    have hq : ((s.extract 0 t.size).toList == t.toList) = x := by
      rw [seq_txt (show s.extract 0 t.size = txt (l.take p.length) by rw [hs, txt_cut, HT.out]; rfl) ht, HX.out, hasP]
    clear hs ht hl hp
    go_enter Tryd.func48, Tryd.ntmps48
    go_wp2_with fail
    go_ret
    exact ⟨by rw [HX.out]; rfl, rfl⟩
  · have E := Lib.hid (show hasP l p = false by
      rw [hasP, decide_eq_false_iff_not]
      intro e
      have := congrArg List.length e
      have := HS.out; have := HT.out
      simp at *; omega)
    clear hs ht hl hp
    go_enter Tryd.func48, Tryd.ntmps48
    go_wp2_with fail
    go_ret
    exact ⟨by rw [E.out]; rfl, rfl⟩
theorem hasP_any {l p : List UInt8} {s t : ByteArray} {x : Bool} (w : World) (hs : s = txt l) (ht : t = txt p) (hl : l.length ≤ 1000000) (hp : p.length ≤ 1000000) (hx : x = hasP l p) :
    Calls Tryd.prog 34 #[.string s, .string t] w fun e w' => e = .returned (.bool x) ∧ w = w' := by
  have HC := Lib.hid (hasPI_any w hs ht hl hp)
  rw [← hx] at HC
  clear hs ht hl hp hx
  go_enter Tryd.func34, Tryd.ntmps34
  go_wp2_with fail
  refine HC.out.mono ?_
  rintro e w1 ⟨rfl, rfl⟩
  go_wp2_with fail
  go_ret
  exact ⟨rfl, rfl⟩
end Go.Proofs.YtpdaelcoiilkkaaDoor
