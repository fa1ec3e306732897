/- What landed: the forms' words as lists; what is cut off by forms. -/
import Derived.Test.YtgmlbcdakblpiaaDoorDo
namespace Go.Proofs.YtgmlbcdakblpiaaDoor
open Go.RowKit
namespace Da

def DF : List UInt8 := [89, 89, 89, 89, 45, 77, 77, 45, 68, 68]
def TF : List UInt8 := [104, 104, 58, 109, 109, 58, 115, 115]
def EF : List UInt8 := [43, 104, 104, 58, 109, 109]
def WF : List UInt8 := [45, 104, 104, 58, 109, 109]
theorem fb_of {f : List UInt8} (h : f.all (fun c => decide (0 < c.toNat ∧ c.toNat < 128)) = true) : fb f := fun i hi => by
  have h1 := (List.all_eq_true.1 h) f[i] (List.getElem_mem hi)
  have h2 := of_decide_eq_true h1
  have e : bt f i = ((f[i]).toNat : Int) := by simp [bt, hi]
  rw [e]; omega
theorem fbD : fb DF := fb_of (by decide)
theorem fbT : fb TF := fb_of (by decide)
theorem fbE : fb EF := fb_of (by decide)
theorem fbW : fb WF := fb_of (by decide)
theorem bgs_D (l : List UInt8) : bgs DF l = dte l := by
  have e : bgs DF l = (dd l 0 && (dd l 1 && (dd l 2 && (dd l 3 && (decide (bt l 4 = 45) && (dd l 5 && (dd l 6 && (decide (bt l 7 = 45) && (dd l 8 && (dd l 9 && true)))))))))) := rfl
  rw [e]; simp [dte, t2, Bool.and_assoc]
theorem bgs_T (l : List UInt8) : bgs TF l = clk l 0 := by
  have e : bgs TF l = (dd l 0 && (dd l 1 && (decide (bt l 2 = 58) && (dd l 3 && (dd l 4 && (decide (bt l 5 = 58) && (dd l 6 && (dd l 7 && true)))))))) := rfl
  rw [e]; simp [clk, t2, Bool.and_assoc]
theorem bgs_E (l : List UInt8) : bgs EF l = (decide (bt l 0 = 43) && (t2 l 1 && (decide (bt l 3 = 58) && t2 l 4))) := by
  have e : bgs EF l = (decide (bt l 0 = 43) && (dd l 1 && (dd l 2 && (decide (bt l 3 = 58) && (dd l 4 && (dd l 5 && true)))))) := rfl
  rw [e]; simp [t2, Bool.and_assoc]
theorem bgs_W (l : List UInt8) : bgs WF l = (decide (bt l 0 = 45) && (t2 l 1 && (decide (bt l 3 = 58) && t2 l 4))) := by
  have e : bgs WF l = (decide (bt l 0 = 45) && (dd l 1 && (dd l 2 && (decide (bt l 3 = 58) && (dd l 4 && (dd l 5 && true)))))) := rfl
  rw [e]; simp [t2, Bool.and_assoc]
theorem bgs_EW (l : List UInt8) : (bgs EF l || bgs WF l) = zs l 0 := by
  rw [bgs_E, bgs_W]
  unfold zs
  simp only [Nat.zero_add]
  by_cases h1 : bt l 0 = 43
  · simp [h1, Bool.and_assoc]
  · by_cases h2 : bt l 0 = 45 <;> simp [h1, h2, Bool.and_assoc]
theorem nmb_Y (p : List UInt8) : nmb DF p 89 10 = 100 * v2 p 0 + v2 p 2 := by
  have e : nmb DF p 89 10 = 10 * (10 * (10 * (10 * 0 + (bt p 0 - 48)) + (bt p 1 - 48)) + (bt p 2 - 48)) + (bt p 3 - 48) := rfl
  rw [e]; simp only [v2, Nat.zero_add, Nat.reduceAdd]; omega
theorem nmb_M (p : List UInt8) : nmb DF p 77 10 = v2 p 5 := by
  have e : nmb DF p 77 10 = 10 * (10 * 0 + (bt p 5 - 48)) + (bt p 6 - 48) := rfl
  rw [e]; simp only [v2, Nat.reduceAdd]; omega
theorem nmb_D (p : List UInt8) : nmb DF p 68 10 = v2 p 8 := by
  have e : nmb DF p 68 10 = 10 * (10 * 0 + (bt p 8 - 48)) + (bt p 9 - 48) := rfl
  rw [e]; simp only [v2, Nat.reduceAdd]; omega
theorem nmb_h (p : List UInt8) : nmb TF p 104 8 = v2 p 0 := by
  have e : nmb TF p 104 8 = 10 * (10 * 0 + (bt p 0 - 48)) + (bt p 1 - 48) := rfl
  rw [e]; simp only [v2, Nat.zero_add]; omega
theorem nmb_m (p : List UInt8) : nmb TF p 109 8 = v2 p 3 := by
  have e : nmb TF p 109 8 = 10 * (10 * 0 + (bt p 3 - 48)) + (bt p 4 - 48) := rfl
  rw [e]; simp only [v2, Nat.reduceAdd]; omega
theorem nmb_s (p : List UInt8) : nmb TF p 115 8 = v2 p 6 := by
  have e : nmb TF p 115 8 = 10 * (10 * 0 + (bt p 6 - 48)) + (bt p 7 - 48) := rfl
  rw [e]; simp only [v2, Nat.reduceAdd]; omega
theorem nmb_zh (p : List UInt8) : nmb EF p 104 6 = v2 p 1 := by
  have e : nmb EF p 104 6 = 10 * (10 * 0 + (bt p 1 - 48)) + (bt p 2 - 48) := rfl
  rw [e]; simp only [v2, Nat.reduceAdd]; omega
theorem nmb_zm (p : List UInt8) : nmb EF p 109 6 = v2 p 4 := by
  have e : nmb EF p 109 6 = 10 * (10 * 0 + (bt p 4 - 48)) + (bt p 5 - 48) := rfl
  rw [e]; simp only [v2, Nat.reduceAdd]; omega
/-- The first of the forms that a text begins with is cut off. -/
def cutL : List (List UInt8) → List UInt8 → List UInt8 × List UInt8
  | [], l => ([], l)
  | f :: fs, l => if bgs f l = true then (l.take f.length, l.drop f.length) else cutL fs l
theorem below_tr {W w w' : World} (h : Below W.heap.size W w) (h' : Below w.heap.size w w') : Below W.heap.size W w' := h.trans (h'.mono h.size)
theorem below_dn {B : Nat} {a w : World} (h : Below B a w) (k : Nat) : Below B a (w.drewN k) := ⟨h.os, h.tape, h.output, h.size, h.block⟩
theorem txt_take {l : List UInt8} {k : Nat} : (txt l).extract 0 k = txt (l.take k) := by rw [txt_cut, List.drop_zero]
theorem txt_drop {l : List UInt8} {k : Nat} : (txt l).extract k (txt l).size = txt (l.drop k) := by
  rw [txt_size, txt_cut, List.take_length]
set_option maxHeartbeats 4000000 in
set_option maxRecDepth 100000 in
theorem cut_is {l : List UInt8} {s : ByteArray} {fs : List (List UInt8)} {g n : Nat} {X Y : ByteArray} (w : World) (hs : s = txt l) (hl : l.length ≤ 1000000) (hf : ∀ f ∈ fs, f.length ≤ 100 ∧ fb f) (hn10 : fs.length ≤ 10) (hg : g < w.heap.size)
    (hc : ∀ i f, fs[i]? = some f → w.cell? ⟨g, i, none⟩ = some (.string (txt f))) (hn : n = fs.length) (hX : X = txt (cutL fs l).1) (hY : Y = txt (cutL fs l).2) :
    Calls Tryd.prog 44 #[.string s, .slice (some ⟨g, 0, none⟩) n n] w fun e w' => e = .returned (.tuple #[.string X, .string Y]) ∧ Below w.heap.size w w' := by
  have zs : s.size = l.length := by rw [hs, txt_size]
  have hsz : s.size ≤ 1000000 := by omega
  have hnn : n ≤ 10 := by omega
  have HS := Lib.hid hs
  have HZ := Lib.hid zs
  have HF := Lib.hid hf
  have HC := Lib.hid hc
  have HN := Lib.hid hn
  have HG := Lib.hid hg
  have HXY := Lib.hid (And.intro hX hY)
  have CB := Lib.hid (fun (f : List UInt8) (hm : f.length ≤ 100 ∧ fb f) (w : World) => begins_is (f := f) w hs rfl hl hm.1 hm.2 rfl)
  clear hs hl hf hn10 hc hn hX hY zs hg
  go_enter Tryd.func44, Tryd.ntmps44
  go_wp2_with fail
  go_loopw [7, 10] (fun _ i wr => ∃ k : Nat, k ≤ n ∧ i = .int .i64 k ∧ Below w.heap.size w wr ∧ Hid (cutL fs l = cutL (fs.drop k) l)) (fun _ i _ => n - (intOf i).toNat)
  case atStart => exact ⟨0, Nat.zero_le _, rfl, Below.refl _ _, Lib.hid rfl⟩
  case round =>
    obtain ⟨k, hk, rfl, hb, HR⟩ := hrel
    have HB := Lib.hid hb
    clear hb
    by_cases hlt : k < n
    · have hkf : k < fs.length := by rw [← HN.out]; exact hlt
      obtain ⟨f, hff⟩ : ∃ f, f = fs[k] := ⟨_, rfl⟩
      have hfs : fs[k]? = some f := by rw [hff]; exact List.getElem?_eq_getElem hkf
      have hfm := HF.out f (by rw [hff]; exact List.getElem_mem hkf)
      obtain ⟨F, hFF⟩ : ∃ F, F = txt f := ⟨_, rfl⟩
      have hcell : wr.cell? ⟨g, k, none⟩ = some (.string F) := by
        rw [HB.out.cell HG.out, hFF]; exact HC.out k f hfs
      have C1 := Lib.hid (CB.out f hfm)
      rw [← hFF] at C1
      have hdr : fs.drop k = f :: fs.drop (k + 1) := by rw [hff]; exact List.drop_eq_getElem_cons hkf
      have E := HR.out
      rw [hdr, cutL] at E
      have hfz : F.size ≤ 100 := by rw [hFF, txt_size]; exact hfm.1
      have HFF := Lib.hid hFF
      clear hdr hff hfs hfm hFF
      cases hbg : bgs f l
      · rw [hbg, if_neg (by simp)] at E
        have HE := Lib.hid E
        rw [hbg] at C1
        clear E hbg
        go_wp2_with fail
        refine (C1.out _).mono ?_
        rintro e w1 ⟨rfl, hb⟩
        have HB1 := Lib.hid (below_tr HB.out hb)
        clear hb hcell
        go_wp2_with fail
        go_roundw
        case rel => exact ⟨k + 1, by omega, by go_num, HB1.out, HE⟩
        case measure => simp [intOf]; omega
      · rw [hbg, if_pos rfl] at E
        have hfl : F.size ≤ s.size := by
          have h1 : F.size = f.length := by rw [HFF.out, txt_size]
          rcases Nat.lt_or_ge l.length f.length with h2 | h2
          · rw [bgs_short (HF.out f (by
              have := HR.out; exact List.mem_of_getElem? (show fs[k]? = some f from by
                have hk2 : fs[k]? = some fs[k] := List.getElem?_eq_getElem hkf
                have h3 : (fs.drop k).head? = some f := by
                  have : wr.cell? ⟨g, k, none⟩ = some (.string F) := hcell
                  rw [HB.out.cell HG.out, HC.out k fs[k] hk2] at this
                  injection this with this
                  injection this with this
                  rw [HFF.out] at this
                  have e2 : fs[k] = f := by
                    have := congrArg (fun t => t.data.toList) this
                    simpa [txt] using this
                  rw [List.head?_drop, hk2, e2]
                rw [List.head?_drop] at h3; exact h3))).2 h2] at hbg
            cases hbg
          · rw [h1, HZ.out]; exact h2
        have HE := Lib.hid (show s.extract 0 F.size = X ∧ s.extract F.size s.size = Y by
          rw [HXY.out.1, HXY.out.2, E, HS.out, txt_take, txt_drop, HFF.out, txt_size]; exact ⟨rfl, rfl⟩)
        rw [hbg] at C1
        clear E hbg
        go_wp2_with fail
        refine (C1.out _).mono ?_
        rintro e w1 ⟨rfl, hb⟩
        have HB1 := Lib.hid (below_tr HB.out hb)
        clear hb hcell
        go_upto_region 5 with fail
        go_quiet (fail)
        go_wp2_with fail
        go_ret2
        exact ⟨by rw [← HE.out.1, ← HE.out.2]; rfl, below_dn HB1.out _⟩
    · obtain rfl : k = n := by omega
      have E := Lib.hid (show s = Y ∧ X = ⟨#[]⟩ by
        have := HR.out
        rw [HN.out, List.drop_length, cutL] at this
        rw [HXY.out.1, HXY.out.2, this]; exact ⟨HS.out, rfl⟩)
      go_wp2_with fail
      go_ret2
      exact ⟨by rw [← E.out.1, E.out.2]; rfl, HB.out⟩
end Da
end Go.Proofs.YtgmlbcdakblpiaaDoor
