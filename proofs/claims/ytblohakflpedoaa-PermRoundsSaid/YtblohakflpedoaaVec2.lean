/- vec.Same. -/
import Derived.Test.YtblohakflpedoaaVec
import Derived.Test.YtblohakflpedoaaSame
import Derived.Test.YtblohakflpedoaaRefe
namespace Go.Proofs.Ytblohakflpedoaa
open Go.ChangeShapes Go.WideShapes Go.ChangeAt Go.RowKit
set_option linter.unusedVariables false

end Go.Proofs.Ytblohakflpedoaa
