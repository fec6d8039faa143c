/- Package vec. -/
import Derived.Test.YtoejflnlkapkiaaDoorRowz
import Derived.Test.YtoejflnlkapkiaaDoorSum
namespace Go.Proofs.YtoejflnlkapkiaaDoor
open Go.ChangeShapes Go.WideShapes Go.ChangeAt Go.RowKit
set_option linter.unusedVariables false

end Go.Proofs.YtoejflnlkapkiaaDoor
