/- Reference 19's one, two and Plain. -/
import Derived.Test.YtcbiennifmfkgaaCandc
namespace Go.Proofs.Ytcbiennifmfkgaa
open Go.ChangeShapes Go.WideShapes Go.ChangeAt Go.RowKit
set_option linter.unusedVariables false
set_option linter.unusedSimpArgs false
end Go.Proofs.Ytcbiennifmfkgaa
