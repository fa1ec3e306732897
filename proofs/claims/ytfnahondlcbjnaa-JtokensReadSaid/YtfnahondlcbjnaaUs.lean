/- A scope in which the run jumps to labels: at each jump the walk goes on from that label, with the frame that it has. -/
import Derived.Test.YtfnahondlcbjnaaBase
import Derived.ScopeJumps
import Derived.WalkMore
namespace Go.Proofs.Ytfnahondlcbjnaa
open Go.RowKit
namespace Jk

/-- From code r, inside the scope of c, the run arrives at Q. -/
def SW (P : Program) (c r : Code) (Q : Exit → Act → World → Prop) (a : Act) (w : World) : Prop :=
  ∀ (b : Frame) (k : List Item) (cs : List Frame), ∃ e a' w', Q e a' w' ∧ Arrives P (lone (b.at a (.code r :: .inScope c :: k)) cs w) b k cs e a' w'
/-- At a jump: what stands behind that label; else as Q. -/
def Exit.inSc (P : Program) (c : Code) (Q : Exit → Act → World → Prop) : Exit → Act → World → Prop
  | .goto l, a, w => ∃ rest, findLabel c l = some rest ∧ SW P c rest Q a w
  | e, a, w => Q e a w
section
variable {P : Program} {c r : Code} {Q : Exit → Act → World → Prop} {a : Act} {w : World}
theorem SW.of (h : r.wp P (Exit.inSc P c Q) a w) : SW P c r Q a w := by
  intro b k cs
  obtain ⟨e, a₁, w₁, hq, harr⟩ := h b (.inScope c :: k) cs
  cases e with
  | normal => exact ⟨.normal, a₁, w₁, hq, Steps.trans harr (.one step_inScope)⟩
  | exit id => exact ⟨.exit id, a₁, w₁, hq, fun k' hk => harr k' (by simp [exitTo, hk])⟩
  | goto l =>
    obtain ⟨rest, hf, hs⟩ := hq
    obtain ⟨e₂, a₂, w₂, hq₂, harr₂⟩ := hs b k cs
    have hg : gotoIn l (.inScope c :: k) = some (.code rest :: .inScope c :: k) := by simp [gotoIn, hf]
    exact ⟨e₂, a₂, w₂, hq₂, .of_steps (harr _ hg) harr₂⟩
  | ret => exact ⟨_, a₁, w₁, hq, harr⟩
  | panic ch => exact ⟨_, a₁, w₁, hq, harr⟩
  | outgrown => exact ⟨_, a₁, w₁, hq, harr⟩
theorem wp_scope_sw (h : SW P c c Q a w) : (Code.scope c).wp P Q a w := by
  intro b k cs
  obtain ⟨e, a₁, w₁, hq, harr⟩ := h b k cs
  exact ⟨e, a₁, w₁, hq, .of_steps (.one step_scope) harr⟩
theorem wp_scope_sw' (h : ∀ C, C = c → c.wp P (Exit.inSc P C Q) a w) : (Code.scope c).wp P Q a w := wp_scope_sw (SW.of (h c rfl))
theorem inSc_ret : Exit.inSc P c Q .ret a w = Q .ret a w := rfl
theorem inSc_normal : Exit.inSc P c Q .normal a w = Q .normal a w := rfl
theorem inSc_goto {l : Nat} {rest : Code} (hf : findLabel c l = some rest) (h : rest.wp P (Exit.inSc P c Q) a w) : Exit.inSc P c Q (.goto l) a w := ⟨rest, hf, SW.of h⟩
end
end Jk
end Go.Proofs.Ytfnahondlcbjnaa
