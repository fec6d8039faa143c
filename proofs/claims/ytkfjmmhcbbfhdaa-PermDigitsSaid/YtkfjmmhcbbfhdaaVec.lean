/- Package vec. -/
import Derived.Test.YtkfjmmhcbbfhdaaRowz
import Derived.Test.YtkfjmmhcbbfhdaaSum
namespace Go.Proofs.Ytkfjmmhcbbfhdaa
open Go.ChangeShapes Go.WideShapes Go.ChangeAt Go.RowKit
set_option linter.unusedVariables false

end Go.Proofs.Ytkfjmmhcbbfhdaa
