/- Package vec. -/
import Derived.Test.YtncpikaegcookaaRowz
import Derived.Test.YtncpikaegcookaaSum
namespace Go.Proofs.Ytncpikaegcookaa
open Go.ChangeShapes Go.WideShapes Go.ChangeAt Go.RowKit
set_option linter.unusedVariables false

end Go.Proofs.Ytncpikaegcookaa
