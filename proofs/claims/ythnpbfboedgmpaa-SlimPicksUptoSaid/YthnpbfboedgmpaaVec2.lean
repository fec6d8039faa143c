/- vec.Same. -/
import Derived.Test.YthnpbfboedgmpaaVec
import Derived.Test.YthnpbfboedgmpaaSame
import Derived.Test.YthnpbfboedgmpaaRefe
namespace Go.Proofs.Ythnpbfboedgmpaa
open Go.ChangeShapes Go.WideShapes Go.ChangeAt Go.RowKit
set_option linter.unusedVariables false

end Go.Proofs.Ythnpbfboedgmpaa
