/- Package vec. -/
import Derived.Test.YtblohakflpedoaaRowz
import Derived.Test.YtblohakflpedoaaSum
namespace Go.Proofs.Ytblohakflpedoaa
open Go.ChangeShapes Go.WideShapes Go.ChangeAt Go.RowKit
set_option linter.unusedVariables false

end Go.Proofs.Ytblohakflpedoaa
