/- The reference's Same: are two rows one? -/
import Derived.Test.YtblohakflpedoaaRowz
namespace Go.Proofs.Ytblohakflpedoaa
open Go.ChangeShapes Go.WideShapes Go.ChangeAt Go.RowKit
set_option linter.unusedVariables false

theorem take_eq_step {xs ys : List Int} {k : Nat} (h : xs.take k = ys.take k) (hx : k < xs.length) (hy : k < ys.length) (e : xs.getD k 0 = ys.getD k 0) : xs.take (k + 1) = ys.take (k + 1) := by
  have ex : xs.getD k 0 = xs[k] := by simp [List.getD, hx]
  have ey : ys.getD k 0 = ys[k] := by simp [List.getD, hy]
  rw [List.take_succ_eq_append_getElem hx, List.take_succ_eq_append_getElem hy, h, ← ex, ← ey, e]
theorem ne_of_at {xs ys : List Int} {k : Nat} (h : xs.getD k 0 ≠ ys.getD k 0) : xs ≠ ys := fun e => h (by rw [e])

end Go.Proofs.Ytblohakflpedoaa
