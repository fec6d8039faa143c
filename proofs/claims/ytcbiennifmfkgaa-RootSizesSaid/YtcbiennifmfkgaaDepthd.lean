/- package desc's Depth, for every tree. -/
import Derived.Test.YtcbiennifmfkgaaD11
namespace Go.Proofs.Ytcbiennifmfkgaa
open Go.ChangeShapes Go.WideShapes Go.ChangeAt Go.RowKit
set_option linter.unusedVariables false
end Go.Proofs.Ytcbiennifmfkgaa
