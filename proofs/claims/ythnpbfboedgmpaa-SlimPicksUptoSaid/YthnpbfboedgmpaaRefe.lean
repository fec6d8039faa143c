/- The document's own answers of layer 5 (dulcimerref05). -/
import Derived.Test.YthnpbfboedgmpaaOwn
import Derived.Test.YthnpbfboedgmpaaRefb
import Derived.Test.YthnpbfboedgmpaaSum
namespace Go.Proofs.Ythnpbfboedgmpaa
open Go.ChangeShapes Go.WideShapes Go.ChangeAt Go.RowKit
set_option linter.unusedVariables false

/-- Reduced. -/
def redl (xs : List Int) : List Int := xs.map fm
theorem redl_len (xs : List Int) : (redl xs).length = xs.length := by unfold redl; simp
theorem redl_at (xs : List Int) (k : Nat) (h : k < xs.length) : (redl xs).getD k 0 = fm (xs.getD k 0) := by
  unfold redl; simp [List.getD, h]

end Go.Proofs.Ythnpbfboedgmpaa
