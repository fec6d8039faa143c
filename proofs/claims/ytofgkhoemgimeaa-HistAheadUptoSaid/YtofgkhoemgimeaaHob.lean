/- Two calls with all that belongs to them, in numbers. By program (genhob.py). -/
import Derived.Test.YtofgkhoemgimeaaHoa
namespace Go.Proofs.Ytofgkhoemgimeaa
open Go.ChangeShapes Go.WideShapes Go.ChangeAt Go.RowKit
set_option linter.unusedVariables false
set_option linter.unusedSimpArgs false
structure Ov where
  w : Int
  a : Int
  kd : Int
  n : Int
  dir : Int
  s : ByteArray
  cw : Int
  ca : Int
  xs : List Int
  t : Tl
  fr : Int
  to : Int
def OvP (a b : Ov) : Prop := a.w = b.w ∧ a.a = b.a ∧ a.fr = b.fr ∧ a.to = b.to ∧ a.kd = b.kd ∧ a.n = b.n ∧ a.dir = b.dir ∧ a.s.data.toList = b.s.data.toList ∧ a.cw = b.cw ∧ a.ca = b.ca ∧ a.xs = b.xs ∧ TlP a.t b.t
instance (a b : Ov) : Decidable (OvP a b) := by unfold OvP; infer_instance
theorem cells19H {w : World} {b : Nat} {T : TypeId} {x0 x1 x2 x3 x4 x5 x6 x7 x8 x9 x10 x11 x12 x13 x14 x15 x16 x17 x18 : Value} (h : w.heap[b]? = some (.cells #[x0, x1, x2, x3, x4, x5, x6, x7, x8, x9, x10, x11, x12, x13, x14, x15, x16, x17, x18] T (0, 0))) : w.cell? ⟨b, 0, none⟩ = some x0 ∧ w.cell? ⟨b, 1, none⟩ = some x1 ∧ w.cell? ⟨b, 2, none⟩ = some x2 ∧ w.cell? ⟨b, 3, none⟩ = some x3 ∧ w.cell? ⟨b, 4, none⟩ = some x4 ∧ w.cell? ⟨b, 5, none⟩ = some x5 ∧ w.cell? ⟨b, 6, none⟩ = some x6 ∧ w.cell? ⟨b, 7, none⟩ = some x7 ∧ w.cell? ⟨b, 8, none⟩ = some x8 ∧ w.cell? ⟨b, 9, none⟩ = some x9 ∧ w.cell? ⟨b, 10, none⟩ = some x10 ∧ w.cell? ⟨b, 11, none⟩ = some x11 ∧ w.cell? ⟨b, 12, none⟩ = some x12 ∧ w.cell? ⟨b, 13, none⟩ = some x13 ∧ w.cell? ⟨b, 14, none⟩ = some x14 ∧ w.cell? ⟨b, 15, none⟩ = some x15 ∧ w.cell? ⟨b, 16, none⟩ = some x16 ∧ w.cell? ⟨b, 17, none⟩ = some x17 ∧ w.cell? ⟨b, 18, none⟩ = some x18 := by
  refine ⟨?_, ?_, ?_, ?_, ?_, ?_, ?_, ?_, ?_, ?_, ?_, ?_, ?_, ?_, ?_, ?_, ?_, ?_, ?_⟩ <;> (rw [cell_of_row _ _ _ _ _ _ h]; rfl)
end Go.Proofs.Ytofgkhoemgimeaa
