/- Package vec. -/
import Derived.Test.YthnpbfboedgmpaaRowz
import Derived.Test.YthnpbfboedgmpaaSum
namespace Go.Proofs.Ythnpbfboedgmpaa
open Go.ChangeShapes Go.WideShapes Go.ChangeAt Go.RowKit
set_option linter.unusedVariables false

end Go.Proofs.Ythnpbfboedgmpaa
