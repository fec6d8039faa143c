/- vec.Same. -/
import Derived.Test.YtkfjmmhcbbfhdaaVec
import Derived.Test.YtkfjmmhcbbfhdaaSame
import Derived.Test.YtkfjmmhcbbfhdaaRefe
namespace Go.Proofs.Ytkfjmmhcbbfhdaa
open Go.ChangeShapes Go.WideShapes Go.ChangeAt Go.RowKit
set_option linter.unusedVariables false

end Go.Proofs.Ytkfjmmhcbbfhdaa
