/- Reference 19's List: the walk. -/
import Derived.Test.YtcbiennifmfkgaaCandi
namespace Go.Proofs.Ytcbiennifmfkgaa
open Go.ChangeShapes Go.WideShapes Go.ChangeAt Go.RowKit
set_option linter.unusedVariables false
set_option linter.unusedSimpArgs false
end Go.Proofs.Ytcbiennifmfkgaa
