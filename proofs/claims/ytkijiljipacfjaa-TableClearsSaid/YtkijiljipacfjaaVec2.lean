/- vec.Same. -/
import Derived.Test.YtkijiljipacfjaaVec
import Derived.Test.YtkijiljipacfjaaSame
import Derived.Test.YtkijiljipacfjaaRefe
namespace Go.Proofs.Ytkijiljipacfjaa
open Go.ChangeShapes Go.WideShapes Go.ChangeAt Go.RowKit
set_option linter.unusedVariables false

end Go.Proofs.Ytkijiljipacfjaa
