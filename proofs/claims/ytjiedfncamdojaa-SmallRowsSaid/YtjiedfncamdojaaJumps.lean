/- A scope whose gotos go forward, to labels 0 and 1. -/
import Derived.Test.YtjiedfncamdojaaBase
import Derived.WalkMore
import Derived.ScopeJumps
namespace Go.Proofs.Ytjiedfncamdojaa
open Go.ChangeShapes Go.WideShapes Go.ChangeAt Go.RowKit
set_option linter.unusedVariables false
section
variable {P : Program} {a : Act} {w : World} {Q : Exit → Act → World → Prop}
/-- As Q; by a goto: J of its label. -/
def jumps (J : Nat → Act → World → Prop) (Q : Exit → Act → World → Prop) : Exit → Act → World → Prop
  | .goto l, a, w => J l a w
  | e, a, w => Q e a w
/-- From code r within the scope of c the run comes to Q. -/
def Ends (P : Program) (c r : Code) (Q : Exit → Act → World → Prop) (a : Act) (w : World) : Prop :=
  ∀ b k cs, ∃ e a' w', Q e a' w' ∧ Arrives P (lone (b.at a (.code r :: .inScope c :: k)) cs w) b k cs e a' w'
theorem ends_of {c r : Code} (J : Nat → Act → World → Prop) (hJ : ∀ l a w, J l a w → ∃ r', findLabel c l = some r' ∧ Ends P c r' Q a w) (h : r.wp P (jumps J Q) a w) : Ends P c r Q a w := by
  intro b k cs
  obtain ⟨e, a₁, w₁, hq, harr⟩ := h b (.inScope c :: k) cs
  cases e with
  | normal => exact ⟨.normal, a₁, w₁, hq, Steps.trans harr (.one step_inScope)⟩
  | exit id => exact ⟨.exit id, a₁, w₁, hq, fun k' hk => harr k' (by simp [exitTo, hk])⟩
  | goto l =>
    obtain ⟨r', hf, he⟩ := hJ l a₁ w₁ hq
    obtain ⟨e₂, a₂, w₂, hq₂, harr₂⟩ := he b k cs
    have hg : gotoIn l (.inScope c :: k) = some (.code r' :: .inScope c :: k) := by simp [gotoIn, hf]
    exact ⟨e₂, a₂, w₂, hq₂, .of_steps (harr _ hg) harr₂⟩
  | ret => exact ⟨_, a₁, w₁, hq, harr⟩
  | panic ch => exact ⟨_, a₁, w₁, hq, harr⟩
  | outgrown => exact ⟨_, a₁, w₁, hq, harr⟩
theorem scope_of {c : Code} (J : Nat → Act → World → Prop) (hJ : ∀ l a w, J l a w → ∃ r', findLabel c l = some r' ∧ Ends P c r' Q a w) (h : c.wp P (jumps J Q) a w) : (Code.scope c).wp P Q a w := by
  intro b k cs
  obtain ⟨e, a₁, w₁, hq, harr⟩ := h b (.inScope c :: k) cs
  cases e with
  | normal => exact ⟨.normal, a₁, w₁, hq, .head step_scope (Steps.trans harr (.one step_inScope))⟩
  | exit id => exact ⟨.exit id, a₁, w₁, hq, fun k' hk => .head step_scope (harr k' (by simp [exitTo, hk]))⟩
  | goto l =>
    obtain ⟨r', hf, he⟩ := hJ l a₁ w₁ hq
    obtain ⟨e₂, a₂, w₂, hq₂, harr₂⟩ := he b k cs
    have hg : gotoIn l (.inScope c :: k) = some (.code r' :: .inScope c :: k) := by simp [gotoIn, hf]
    exact ⟨e₂, a₂, w₂, hq₂, .of_steps (.head step_scope (harr _ hg)) harr₂⟩
  | ret => exact ⟨_, a₁, w₁, hq, .of_steps (.one step_scope) harr⟩
  | panic ch => exact ⟨_, a₁, w₁, hq, .of_steps (.one step_scope) harr⟩
  | outgrown => exact ⟨_, a₁, w₁, hq, .of_steps (.one step_scope) harr⟩
/-- No goto any more; to 0, behind which there is none; to 1, behind which there is one to 0 at most. -/
def noJ : Nat → Act → World → Prop := fun _ _ _ => False
def toZero (P : Program) (r0 : Code) (Q : Exit → Act → World → Prop) : Nat → Act → World → Prop
  | 0, a, w => r0.wp P (jumps noJ Q) a w
  | _, _, _ => False
def toOne (P : Program) (r0 r1 : Code) (Q : Exit → Act → World → Prop) : Nat → Act → World → Prop
  | 0, a, w => r0.wp P (jumps noJ Q) a w
  | 1, a, w => r1.wp P (jumps (toZero P r0 Q) Q) a w
  | _, _, _ => False
theorem scope_two {c r0 r1 : Code} (h0 : findLabel c 0 = some r0) (h1 : findLabel c 1 = some r1) (h : c.wp P (jumps (toOne P r0 r1 Q) Q) a w) : (Code.scope c).wp P Q a w := by
  have e0 : ∀ a w, r0.wp P (jumps noJ Q) a w → Ends P c r0 Q a w := fun a w h => ends_of noJ (fun _ _ _ f => f.elim) h
  have ez : ∀ l a w, toZero P r0 Q l a w → ∃ r', findLabel c l = some r' ∧ Ends P c r' Q a w := by
    intro l a w hl
    match l, hl with
    | 0, hl => exact ⟨r0, h0, e0 a w hl⟩
  refine scope_of (toOne P r0 r1 Q) ?_ h
  intro l a w hl
  match l, hl with
  | 0, hl => exact ⟨r0, h0, e0 a w hl⟩
  | 1, hl => exact ⟨r1, h1, ends_of _ ez hl⟩
theorem jumps_one {r0 r1 : Code} (h : r1.wp P (jumps (toZero P r0 Q) Q) a w) : jumps (toOne P r0 r1 Q) Q (.goto 1) a w := h
theorem jumps_zero1 {r0 r1 : Code} (h : r0.wp P (jumps noJ Q) a w) : jumps (toOne P r0 r1 Q) Q (.goto 0) a w := h
theorem jumps_zero2 {r0 : Code} (h : r0.wp P (jumps noJ Q) a w) : jumps (toZero P r0 Q) Q (.goto 0) a w := h
theorem jumps_normal {J : Nat → Act → World → Prop} (h : Q .normal a w) : jumps J Q .normal a w := h
end
end Go.Proofs.Ytjiedfncamdojaa
