/- What the laws ask of the library, over lists: TrimPrefix, ToUpper, Repeat. -/
import Derived.Test.YtonfaphllpjmpaaDoorInU
import Derived.Test.YtonfaphllpjmpaaDoorInP
namespace Go.Proofs.YtonfaphllpjmpaaDoor
open Go.RowKit

theorem trim_any {v : Int} {s : ByteArray} (hs : s = txt (In.nfI v)) (w : World) :
    Calls Tryd.prog 14 #[.string s, .string ⟨#[45]⟩] w fun e w' => e = .returned (.string (txt (In.dN 10 v.natAbs))) ∧ w = w' := by
  refine (Tryd.strings_TrimPrefix s ⟨#[45]⟩ w).mono ?_
  rintro e w' ⟨rfl, rfl⟩
  refine ⟨?_, rfl⟩
  have e1 : s.data.toList = In.nfI v := by rw [hs]; simp [txt]
  rw [e1]
  have e2 : Lib.trimPrefix (In.nfI v) (⟨#[45]⟩ : ByteArray).data.toList = In.dN 10 v.natAbs := by
    rw [In.nfI_sg]
    unfold Lib.trimPrefix Lib.hasPrefix In.sg
    by_cases h : v < 0
    · rw [if_pos h]; simp
    · rw [if_neg h, List.nil_append, if_neg]
      by_cases h0 : v.natAbs = 0
      · rw [h0, In.dN_zero (by omega)]; decide
      · obtain ⟨d, r, e, h1, h2⟩ := In.dN_head (b := 10) (by omega) (by omega) h0
        rw [e]
        have := (In.ch_signs (d := d) (by omega)).2
        simp [List.isPrefixOf, Ne.symm this]
  rw [e2]; rfl
theorem ch_ascii : ∀ d, d < 16 → (In.ch d).toNat < 128 ∧ Lib.upperB (In.ch d) = In.up (In.ch d) := by
  have : (List.range 16).all (fun d => decide ((In.ch d).toNat < 128) && (Lib.upperB (In.ch d) == In.up (In.ch d))) = true := by decide +kernel
  intro d hd
  simpa using (List.all_eq_true.1 this) d (List.mem_range.2 hd)
theorem dN_mem {b : Nat} (hb : 2 ≤ b) : ∀ n, ∀ c ∈ In.dN b n, ∃ d, d < b ∧ c = In.ch d := fun n => by
  induction n using Nat.strongRecOn with
  | ind n ih =>
    intro c hc
    by_cases h : b ≤ n
    · rw [In.dN_ge hb h, List.mem_append] at hc
      rcases hc with hc | hc
      · exact ih _ (Nat.div_lt_self (by omega) (by omega)) c hc
      · exact ⟨_, Nat.mod_lt _ (by omega), by simpa using hc⟩
    · rw [In.dN_lt (by omega)] at hc
      exact ⟨n, by omega, by simpa using hc⟩
theorem upper_any {n : Nat} {s : ByteArray} (hs : s = txt (In.dN 16 n)) (hl : (In.dN 16 n).length ≤ 1000) (w : World) :
    Calls Tryd.prog 16 #[.string s] w fun e w' => e = .returned (.string (txt ((In.dN 16 n).map In.up))) ∧ Below w.heap.size w w' := by
  have e1 : s.data.toList = In.dN 16 n := by rw [hs]; simp [txt]
  refine (Tryd.strings_ToUpper_ascii s w (by rw [hs, txt_size]; omega) (fun j b h => ?_)).mono ?_
  · rw [e1] at h
    obtain ⟨d, hd, rfl⟩ := dN_mem (by omega) n b (List.mem_of_getElem? h)
    exact (ch_ascii d hd).1
  · rintro e w' ⟨rfl, hb⟩
    refine ⟨?_, hb⟩
    rw [e1]
    have e2 : Lib.toUpperA (In.dN 16 n) = (In.dN 16 n).map In.up := by
      unfold Lib.toUpperA
      refine List.map_congr_left fun c hc => ?_
      obtain ⟨d, hd, rfl⟩ := dN_mem (by omega) n c hc
      exact (ch_ascii d hd).2
    rw [e2]; rfl
theorem repL (k : Nat) : Lib.repeatL [48] k = List.replicate k 48 := by
  induction k with
  | zero => rfl
  | succ k ih => rw [Lib.repeatL, ih]; rfl
theorem repeat_any (k : Nat) (hk : k ≤ 20) (w : World) :
    Calls Tryd.prog 19 #[.string ⟨#[48]⟩, .int .i64 k] w fun e w' => e = .returned (.string (txt (List.replicate k 48))) ∧ Below w.heap.size w w' := by
  refine (Tryd.strings_Repeat ⟨#[48]⟩ k w (by omega) (by show 1 * k ≤ _; omega)).mono ?_
  rintro e w' ⟨rfl, hb⟩
  exact ⟨by rw [← repL]; rfl, hb⟩
end Go.Proofs.YtonfaphllpjmpaaDoor
