/- The document's own sums, products of two rows (dulcimerref05). -/
import Derived.Test.YthnpbfboedgmpaaRefe
namespace Go.Proofs.Ythnpbfboedgmpaa
open Go.ChangeShapes Go.WideShapes Go.ChangeAt Go.RowKit
set_option linter.unusedVariables false

theorem scl_at' (a : Int) (xs : List Int) (k : Nat) (h : k < xs.length) : (scl a xs).getD k 0 = fm (xs.getD k 0 * a) := by
  rw [scl_at a xs k h, Int.mul_comm]

theorem fsum_dot (xs ys : List Int) (k : Nat) (h : k < xs.length) (h' : xs.length = ys.length) : fm (fsum (zmul xs ys) k + fm (xs.getD k 0 * ys.getD k 0)) = fsum (zmul xs ys) (k + 1) := by
  rw [← zmul_at xs ys k h h', fsum_succ _ _ (by rw [zmul_len xs ys h']; exact h)]

end Go.Proofs.Ythnpbfboedgmpaa
