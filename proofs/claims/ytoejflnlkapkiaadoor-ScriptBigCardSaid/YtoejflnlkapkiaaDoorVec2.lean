/- vec.Same. -/
import Derived.Test.YtoejflnlkapkiaaDoorVec
import Derived.Test.YtoejflnlkapkiaaDoorSame
import Derived.Test.YtoejflnlkapkiaaDoorRefe
namespace Go.Proofs.YtoejflnlkapkiaaDoor
open Go.ChangeShapes Go.WideShapes Go.ChangeAt Go.RowKit
set_option linter.unusedVariables false

end Go.Proofs.YtoejflnlkapkiaaDoor
