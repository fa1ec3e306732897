/- The document's answer on the bytes of runes, walked. -/
import Derived.Test.YtilokhbhkbikiaaDoorPutAll
import Derived.Test.YtilokhbhkbikiaaDoorApp
import Derived.Test.YtilokhbhkbikiaaDoorBase
namespace Go.Proofs.YtilokhbhkbikiaaDoor
open Go.RowKit

theorem cells_new {w : World} {t : TypeId} (cs : Array Value) (xs : List Value) (h : cs.toList = xs) : ∀ j u, xs[j]? = some u → (w.alloc (.cells cs t)).cell? ((⟨w.heap.size, 0, none⟩ : Addr).add j) = some u := fun j u hu => by
  rw [addAt, World.cell?_alloc_at _ _ _ _ rfl, ← Array.getElem?_toList, h, Nat.zero_add, hu]
theorem bytI_one (l : List Int) : ∀ u ∈ bytI l, u.oneCell' = true := ints_oneCell .u8 l
/-- A byte of a number. -/
def b8 (x : Int) : UInt8 := UInt8.ofNat x.toNat
theorem encI_bd {r : Int} (h0 : 0 ≤ r) (h1 : r ≤ 1114111) : ∀ x ∈ encI r, 0 ≤ x ∧ x ≤ 255 := by
  unfold encI
  intro x hx
  repeat' split at hx
  all_goals
    simp at hx
    omega
theorem putTo_bd (l : List Int) (k : Nat) : ∀ x ∈ putTo l k, 0 ≤ x ∧ x ≤ 255 := by
  induction k with
  | zero => intro x hx; simp [putTo] at hx
  | succ k ih =>
    intro x hx
    simp only [putTo, List.mem_append] at hx
    rcases hx with hx | hx
    · exact ih x hx
    · exact encI_bd (knw_bd _).1 (knw_bd _).2 x hx
/-- The bytes of runes. -/
def puts (l : List Int) : List UInt8 := (putI l).map b8
theorem bytV_puts (l : List Int) : bytI (putI l) = bytV (puts l) := by
  unfold bytI bytV puts
  rw [List.map_map]
  apply List.map_congr_left
  intro x hx
  have := putTo_bd l _ x hx
  simp only [Function.comp, b8]
  rw [UInt8.toNat_ofNat_of_lt' (by simp [UInt8.size]; omega)]
  congr 1; omega
/-- What holds at each round's head. -/
def URel (w wr : World) (l : List Int) (k j : Nat) (v : Value) : Prop :=
  j = (putTo l k).length ∧ wr.ownsRow w.heap.size 5 1 v j (bytI (putTo l k)) ∧ Below w.heap.size w wr ∧ (v.ownBlock = none ∨ ∃ g, v.ownBlock = some g ∧ w.heap.size ≤ g)
theorem URel.next {w wr w2 : World} {l : List Int} {k j m : Nat} {v v2 : Value} {o : Obj} {r : Int} {news : List Value} (h : URel w wr l k j v) (hr : r = knw (it l k)) (hn : news = bytI (encI r)) (hm : m = news.length)
    (hown : w2.ownsRow w.heap.size 5 1 v2 (j + m) (bytI (putTo l k) ++ news)) (hg : (wr.alloc o).grownBy w2 v.ownBlock) : URel w w2 l (k + 1) (j + m) v2 := by
  obtain ⟨hj, _, hb, hv⟩ := h
  subst hr; subst hn; subst hm
  refine ⟨by simp [putTo, bytI]; omega, by simpa [putTo, bytI] using hown, ?_, ?_⟩
  · refine (hb.alloc (by exact hb.size) o).grown hg (by have := hb.size; simp; omega) (fun g e => ?_)
    rcases hv with h | ⟨g', h, h'⟩
    · rw [h] at e; cases e
    · rw [h] at e; cases e; exact h'
  · rcases hown.2 with ⟨e, _⟩ | ⟨g, cap, cur, e, hbg, _⟩
    · exact .inl (by rw [e]; rfl)
    · exact .inr ⟨g, by rw [e]; rfl, hbg⟩
def RPutPost (w : World) (l : List Int) (e : Ending) (w' : World) : Prop :=
  ∃ A N c, e = .returned (.slice A N c) ∧ N = (puts l).length ∧ N ≤ c ∧ c ≤ maxLen ∧ Byt w' w'.heap.size A (puts l) ∧ Below w.heap.size w w'
theorem URel.stop {w wr : World} {l : List Int} {j : Nat} {v : Value} (h : URel w wr l l.length j v) : RPutPost w l (.returned v) wr := by
  obtain ⟨hj, hown, hb, _⟩ := h
  have e : bytI (putTo l l.length) = bytV (puts l) := bytV_puts l
  rw [e] at hown
  obtain ⟨A, c, rfl, h1, h2, h3, h4, _⟩ := own_form hown
  exact ⟨A, j, c, rfl, h3, h1, h2, h4, hb⟩

set_option maxHeartbeats 4000000 in
set_option maxRecDepth 100000 in
theorem rput_any {l : List Int} {A : Option Addr} (n c : Nat) {w : World} (hn : n = l.length) (hA : Num w w.heap.size A l) (hs : n ≤ 65536) :
    Calls Tryd.prog 21 #[.slice A n c] w (RPutPost w l) := by
  have Hn := Lib.hid hn
  clear hn
  obtain ⟨i0, hi, hz0, hz1, hz2⟩ := info_parts (show (Tryd.prog.info? 5).map (fun i => (i.zero, i.size, i.bytes)) = some (some (.int .u8 0), 1, 1) by kernel_rfl)
  have R0 : URel w w l 0 0 (.slice none 0 0) := ⟨rfl, World.ownsRow_nil _ _ _ _, Below.refl _ _, .inl rfl⟩
  go_enter Tryd.func21, Tryd.ntmps21
  go_wp2
  go_loopw [3, 4] (fun v i wr => ∃ k j : Nat, k ≤ n ∧ i = .int .i64 k ∧ URel w wr l k j v) (fun _ i _ => n - (intOf i).toNat)
  case atStart => exact ⟨0, 0, Nat.zero_le _, rfl, R0⟩
  case round =>
    obtain ⟨k, j, hk, rfl, R⟩ := hrel
    clear R0
    by_cases hlt : k < n
    · have hbel := R.2.2.1
      have hown := R.2.1
      have hj : j ≤ 65536 * 4 := by have := R.1; have := putTo_len l k; omega
      have HR := Lib.hid R
      obtain ⟨b, off, rfl, hbB, hc⟩ := hA.at_ (k := k) (by have := Hn.out; omega)
      obtain ⟨x, HX⟩ : ∃ x, Hid (x = it l k) := ⟨_, rfl⟩
      have hck : wr.cell? ⟨b, off + k, none⟩ = some (.int .i64 x) := by rw [HX.out]; exact (hbel.cell (p := ⟨b, off + k, none⟩) hbB).trans (hc k (by have := Hn.out; omega))
      have hbs : w.heap.size ≤ wr.heap.size := hbel.size
      clear hc R
      by_cases hneg : x < 0
      · 
        have HK := Lib.hid (show 65533 = knw (it l k) by rw [← HX.out]; rw [knw, if_neg (by omega)])
        have HE := Lib.hid (show bytI [239, 191, 189] = bytI (encI 65533) by simp [encI])
        go_wp2_with ((at_builtin; refine wpList_append_own _ rfl (.tmp 52) (.tmp 66) 34 rfl w.heap.size 5 i0 (.int .u8 0) 1 1 Tryd.underlying34 hi hz0 hz1 hz2 rfl (by decide) _ j (bytI (putTo l k)) rfl (hown.alloc _) ⟨wr.heap.size, 0, none⟩ 3 3 (bytI [239, 191, 189]) rfl rfl (cells_new _ _ rfl) (bytI_one _) (by unfold maxLen; omega) (by omega) (by simp; omega) ?_; intro v2 w2 hown2 hg2 _))
        have R2 := HR.out.next HK.out HE.out rfl hown2 hg2
        clear hown2 hg2
        go_roundw
        case rel => exact ⟨k + 1, _, by omega, by go_num, R2⟩
        case measure => simp [intOf]; omega
      by_cases hbig : 1114111 < x
      · 
        have HK := Lib.hid (show 65533 = knw (it l k) by rw [← HX.out]; rw [knw, if_neg (by omega)])
        have HE := Lib.hid (show bytI [239, 191, 189] = bytI (encI 65533) by simp [encI])
        go_wp2_with ((at_builtin; refine wpList_append_own _ rfl (.tmp 52) (.tmp 66) 34 rfl w.heap.size 5 i0 (.int .u8 0) 1 1 Tryd.underlying34 hi hz0 hz1 hz2 rfl (by decide) _ j (bytI (putTo l k)) rfl (hown.alloc _) ⟨wr.heap.size, 0, none⟩ 3 3 (bytI [239, 191, 189]) rfl rfl (cells_new _ _ rfl) (bytI_one _) (by unfold maxLen; omega) (by omega) (by simp; omega) ?_; intro v2 w2 hown2 hg2 _))
        have R2 := HR.out.next HK.out HE.out rfl hown2 hg2
        clear hown2 hg2
        go_roundw
        case rel => exact ⟨k + 1, _, by omega, by go_num, R2⟩
        case measure => simp [intOf]; omega
      by_cases hsur : 55296 ≤ x ∧ x ≤ 57343
      · obtain ⟨hs1, hs2⟩ := hsur
        have HK := Lib.hid (show 65533 = knw (it l k) by rw [← HX.out]; rw [knw, if_neg (by omega)])
        have HE := Lib.hid (show bytI [239, 191, 189] = bytI (encI 65533) by simp [encI])
        go_wp2_with ((at_builtin; refine wpList_append_own _ rfl (.tmp 52) (.tmp 66) 34 rfl w.heap.size 5 i0 (.int .u8 0) 1 1 Tryd.underlying34 hi hz0 hz1 hz2 rfl (by decide) _ j (bytI (putTo l k)) rfl (hown.alloc _) ⟨wr.heap.size, 0, none⟩ 3 3 (bytI [239, 191, 189]) rfl rfl (cells_new _ _ rfl) (bytI_one _) (by unfold maxLen; omega) (by omega) (by simp; omega) ?_; intro v2 w2 hown2 hg2 _))
        have R2 := HR.out.next HK.out HE.out rfl hown2 hg2
        clear hown2 hg2
        go_roundw
        case rel => exact ⟨k + 1, _, by omega, by go_num, R2⟩
        case measure => simp [intOf]; omega
      by_cases h128 : x < 128
      · 
        have HK := Lib.hid (show x = knw (it l k) by rw [← HX.out]; rw [knw, if_pos (by omega)])
        have HE := Lib.hid (show bytI [x] = bytI (encI x) by rw [encI, if_pos h128])
        have f0 : IntKind.u8.wrap (x) = x := by rw [IntKind.wrap_u8']; omega
        go_wp2_with ((at_builtin; refine wpList_append_own _ rfl (.tmp 32) (.tmp 35) 34 rfl w.heap.size 5 i0 (.int .u8 0) 1 1 Tryd.underlying34 hi hz0 hz1 hz2 rfl (by decide) _ j (bytI (putTo l k)) rfl (hown.alloc _) ⟨wr.heap.size, 0, none⟩ 1 1 (bytI [x]) rfl rfl (cells_new _ _ rfl) (bytI_one _) (by unfold maxLen; omega) (by omega) (by simp; omega) ?_; intro v2 w2 hown2 hg2 _))
        have R2 := HR.out.next HK.out HE.out rfl hown2 hg2
        clear hown2 hg2
        go_roundw
        case rel => exact ⟨k + 1, _, by omega, by go_num, R2⟩
        case measure => simp [intOf]; omega
      by_cases h2048 : x < 2048
      · 
        have HK := Lib.hid (show x = knw (it l k) by rw [← HX.out]; rw [knw, if_pos (by omega)])
        have HE := Lib.hid (show bytI [192 + x / 64, 128 + x % 64] = bytI (encI x) by rw [encI, if_neg h128, if_pos h2048])
        have f0 : IntKind.u8.wrap (192 + x / 64) = 192 + x / 64 := by rw [IntKind.wrap_u8']; omega
        have f1 : IntKind.u8.wrap (128 + x % 64) = 128 + x % 64 := by rw [IntKind.wrap_u8']; omega
        go_wp2_with ((at_builtin; refine wpList_append_own _ rfl (.tmp 39) (.tmp 48) 34 rfl w.heap.size 5 i0 (.int .u8 0) 1 1 Tryd.underlying34 hi hz0 hz1 hz2 rfl (by decide) _ j (bytI (putTo l k)) rfl (hown.alloc _) ⟨wr.heap.size, 0, none⟩ 2 2 (bytI [192 + x / 64, 128 + x % 64]) rfl rfl (cells_new _ _ rfl) (bytI_one _) (by unfold maxLen; omega) (by omega) (by simp; omega) ?_; intro v2 w2 hown2 hg2 _))
        have R2 := HR.out.next HK.out HE.out rfl hown2 hg2
        clear hown2 hg2
        go_roundw
        case rel => exact ⟨k + 1, _, by omega, by go_num, R2⟩
        case measure => simp [intOf]; omega
      by_cases hlo : x < 55296
      · have hl6 : x < 65536 := by omega
        have HK := Lib.hid (show x = knw (it l k) by rw [← HX.out]; rw [knw, if_pos (by omega)])
        have HE := Lib.hid (show bytI [224 + x / 4096, 128 + x / 64 % 64, 128 + x % 64] = bytI (encI x) by rw [encI, if_neg h128, if_neg h2048, if_pos (by omega)])
        have f0 : IntKind.u8.wrap (224 + x / 4096) = 224 + x / 4096 := by rw [IntKind.wrap_u8']; omega
        have f1 : IntKind.u8.wrap (128 + x / 64 % 64) = 128 + x / 64 % 64 := by rw [IntKind.wrap_u8']; omega
        have f2 : IntKind.u8.wrap (128 + x % 64) = 128 + x % 64 := by rw [IntKind.wrap_u8']; omega
        go_wp2_with ((at_builtin; refine wpList_append_own _ rfl (.tmp 52) (.tmp 66) 34 rfl w.heap.size 5 i0 (.int .u8 0) 1 1 Tryd.underlying34 hi hz0 hz1 hz2 rfl (by decide) _ j (bytI (putTo l k)) rfl (hown.alloc _) ⟨wr.heap.size, 0, none⟩ 3 3 (bytI [224 + x / 4096, 128 + x / 64 % 64, 128 + x % 64]) rfl rfl (cells_new _ _ rfl) (bytI_one _) (by unfold maxLen; omega) (by omega) (by simp; omega) ?_; intro v2 w2 hown2 hg2 _))
        have R2 := HR.out.next HK.out HE.out rfl hown2 hg2
        clear hown2 hg2
        go_roundw
        case rel => exact ⟨k + 1, _, by omega, by go_num, R2⟩
        case measure => simp [intOf]; omega
      have hhi : 57343 < x := by omega
      by_cases h65 : x < 65536
      · 
        have HK := Lib.hid (show x = knw (it l k) by rw [← HX.out]; rw [knw, if_pos (by omega)])
        have HE := Lib.hid (show bytI [224 + x / 4096, 128 + x / 64 % 64, 128 + x % 64] = bytI (encI x) by rw [encI, if_neg h128, if_neg h2048, if_pos (by omega)])
        have f0 : IntKind.u8.wrap (224 + x / 4096) = 224 + x / 4096 := by rw [IntKind.wrap_u8']; omega
        have f1 : IntKind.u8.wrap (128 + x / 64 % 64) = 128 + x / 64 % 64 := by rw [IntKind.wrap_u8']; omega
        have f2 : IntKind.u8.wrap (128 + x % 64) = 128 + x % 64 := by rw [IntKind.wrap_u8']; omega
        go_wp2_with ((at_builtin; refine wpList_append_own _ rfl (.tmp 52) (.tmp 66) 34 rfl w.heap.size 5 i0 (.int .u8 0) 1 1 Tryd.underlying34 hi hz0 hz1 hz2 rfl (by decide) _ j (bytI (putTo l k)) rfl (hown.alloc _) ⟨wr.heap.size, 0, none⟩ 3 3 (bytI [224 + x / 4096, 128 + x / 64 % 64, 128 + x % 64]) rfl rfl (cells_new _ _ rfl) (bytI_one _) (by unfold maxLen; omega) (by omega) (by simp; omega) ?_; intro v2 w2 hown2 hg2 _))
        have R2 := HR.out.next HK.out HE.out rfl hown2 hg2
        clear hown2 hg2
        go_roundw
        case rel => exact ⟨k + 1, _, by omega, by go_num, R2⟩
        case measure => simp [intOf]; omega
      · 
        have HK := Lib.hid (show x = knw (it l k) by rw [← HX.out]; rw [knw, if_pos (by omega)])
        have HE := Lib.hid (show bytI [240 + x / 262144, 128 + x / 4096 % 64, 128 + x / 64 % 64, 128 + x % 64] = bytI (encI x) by rw [encI, if_neg h128, if_neg h2048, if_neg h65])
        have f0 : IntKind.u8.wrap (240 + x / 262144) = 240 + x / 262144 := by rw [IntKind.wrap_u8']; omega
        have f1 : IntKind.u8.wrap (128 + x / 4096 % 64) = 128 + x / 4096 % 64 := by rw [IntKind.wrap_u8']; omega
        have f2 : IntKind.u8.wrap (128 + x / 64 % 64) = 128 + x / 64 % 64 := by rw [IntKind.wrap_u8']; omega
        have f3 : IntKind.u8.wrap (128 + x % 64) = 128 + x % 64 := by rw [IntKind.wrap_u8']; omega
        go_wp2_with ((at_builtin; refine wpList_append_own _ rfl (.tmp 68) (.tmp 87) 34 rfl w.heap.size 5 i0 (.int .u8 0) 1 1 Tryd.underlying34 hi hz0 hz1 hz2 rfl (by decide) _ j (bytI (putTo l k)) rfl (hown.alloc _) ⟨wr.heap.size, 0, none⟩ 4 4 (bytI [240 + x / 262144, 128 + x / 4096 % 64, 128 + x / 64 % 64, 128 + x % 64]) rfl rfl (cells_new _ _ rfl) (bytI_one _) (by unfold maxLen; omega) (by omega) (by simp; omega) ?_; intro v2 w2 hown2 hg2 _))
        have R2 := HR.out.next HK.out HE.out rfl hown2 hg2
        clear hown2 hg2
        go_roundw
        case rel => exact ⟨k + 1, _, by omega, by go_num, R2⟩
        case measure => simp [intOf]; omega
    · obtain rfl : n = k := by omega
      have R1 : RPutPost w l (.returned _) wr := (by rw [Hn.out] at R; exact R : URel w wr l l.length j _).stop
      clear R
      go_wp2
      go_ret
      exact R1
end Go.Proofs.YtilokhbhkbikiaaDoor
