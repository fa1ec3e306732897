/- What landed: a text cut ahead of some bytes. -/
import Derived.Test.YthjlnafmpcppfaaGreatDoorFk
import Derived.Test.YthjlnafmpcppfaaGreatDoorFj
namespace Go.Proofs.YthjlnafmpcppfaaGreatDoor
open Go.RowKit Go.Lib
namespace Fl

theorem asc_txt {m : List UInt8} {M : ByteArray} (hM : M = txt m) (ha : ∀ c ∈ m, c.toNat < 128) : Asc M ∧ ∀ (j : Nat) b, M.data.toList[j]? = some b → b.toNat < 128 := by
  have e : M.data.toList = m := data_txt hM
  refine ⟨fun k h => ?_, fun j b hb => ?_⟩
  · apply ha
    rw [← e]
    exact Array.getElem_mem_toList (xs := M.data) h
  · rw [e] at hb
    exact ha b (List.mem_of_getElem? hb)
theorem iany_is {l m : List UInt8} {s M : ByteArray} {x : Int} (w : World) (hs : s = txt l) (hM : M = txt m) (hl : l.length ≤ 100000) (h1 : 1 ≤ m.length) (h8 : m.length ≤ 8) (ha : ∀ c ∈ m, c.toNat < 128) (hx : x = Lib.indexAny l m) :
    Calls Tryz.prog 33 #[.string s, .string M] w fun e w' => e = .returned (.int .i64 x) ∧ Below w.heap.size w w' := by
  obtain ⟨a1, a2⟩ := asc_txt hM ha
  have zs : s.size = l.length := by rw [hs, txt_size]
  have zm : M.size = m.length := by rw [hM, txt_size]
  have ds := data_txt hs
  have dm := data_txt hM
  by_cases hone : m.length = 1
  · refine (Tryz.strings_IndexAny_one s M w (by omega) a2).mono ?_
    rintro e w' ⟨rfl, rfl⟩
    rw [ds, dm, hx]; exact ⟨rfl, Below.refl _ _⟩
  · by_cases hsh : s.size ≤ 8
    · exact any_short w hsh (by omega) (by omega) a1 (by rw [ds, dm, hx])
    · refine (Tryz.strings_IndexAny_long (zero_of_info (n := 256) (by kernel_rfl)).1 s M w (by omega) (by omega) (by omega) (by omega) a2).mono ?_
      rintro e w' ⟨rfl, rfl⟩
      rw [ds, dm, hx]
      exact ⟨rfl, ((Below.refl _ _).alloc (Nat.le_refl _) _).alloc (by simp) _⟩
/-- What lies ahead of the first one of some bytes, and the rest. -/
def ctA (l m : List UInt8) : List UInt8 := l.takeWhile (fun x => !m.contains x)
def ctB (l m : List UInt8) : List UInt8 := l.dropWhile (fun x => !m.contains x)
theorem ct_app (l m : List UInt8) : ctA l m ++ ctB l m = l := List.takeWhile_append_dropWhile
theorem cut_is {l m : List UInt8} {s M A B : ByteArray} (w : World) (hs : s = txt l) (hM : M = txt m) (hl : l.length ≤ 100000) (h1 : 1 ≤ m.length) (h8 : m.length ≤ 8) (ha : ∀ c ∈ m, c.toNat < 128) (hA : A = txt (ctA l m)) (hB : B = txt (ctB l m)) :
    Calls Tryz.prog 38 #[.string s, .string M] w fun e w' => e = .returned (.tuple #[.string A, .string B]) ∧ Below w.heap.size w w' := by
  have zs : s.size = l.length := by rw [hs, txt_size]
  have hsz : s.size ≤ 100000 := by omega
  have hx : Lib.indexAny l m = if ctB l m = [] then -1 else ((ctA l m).length : Int) := indexAny_tk m l
  have hlen : (ctA l m).length + (ctB l m).length = l.length := by rw [← List.length_append, ct_app]
  by_cases hb : ctB l m = []
  · have e : Lib.indexAny l m = -1 := by rw [hx, if_pos hb]
    have C := Lib.hid (fun w => iany_is (x := -1) w hs hM hl h1 h8 ha e.symm)
    have EB := Lib.hid (show B = ⟨#[]⟩ by rw [hB, hb]; rfl)
    have EA := Lib.hid (show A = s by rw [hA, hs]; congr 1; have := ct_app l m; rw [hb, List.append_nil] at this; exact this)
    clear hs hM hl h1 h8 ha hA hB hx hb e zs hlen
    go_enter Tryz.func38, Tryz.ntmps38
    go_wp2_with (go_at_call 33; refine (C.out _).mono ?_; rintro e w1 ⟨rfl, hb⟩)
    go_ret2
    exact ⟨by rw [EA.out, EB.out]; rfl, hb⟩
  · obtain ⟨k, hk⟩ : ∃ k, k = (ctA l m).length := ⟨_, rfl⟩
    have e : Lib.indexAny l m = (k : Int) := by rw [hx, if_neg hb, hk]
    have hks : k ≤ s.size := by omega
    have C := Lib.hid (fun w => iany_is (x := (k : Int)) w hs hM hl h1 h8 ha e.symm)
    have EA := Lib.hid (show s.extract 0 k = A by rw [hs, txt_take, hA, hk]; congr 1; exact (tk_dr _ l).1)
    have EB := Lib.hid (show s.extract k s.size = B by rw [hs, txt_drop, hB, hk]; congr 1; exact (tk_dr _ l).2)
    clear hs hM hl h1 h8 ha hA hB hx hb e zs hlen hk
    go_enter Tryz.func38, Tryz.ntmps38
    go_upto_region 3 with (go_at_call 33; refine (C.out _).mono ?_; rintro e w1 ⟨rfl, hb⟩)
    have HB := Lib.hid hb
    clear hb
    go_quiet (fail)
    go_wp2_with fail
    go_ret2
    exact ⟨by rw [← EA.out, ← EB.out]; rfl, belowDrewN HB.out _⟩
end Fl
end Go.Proofs.YthjlnafmpcppfaaGreatDoor
