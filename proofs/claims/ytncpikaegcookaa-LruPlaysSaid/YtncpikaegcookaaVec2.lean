/- vec.Same. -/
import Derived.Test.YtncpikaegcookaaVec
import Derived.Test.YtncpikaegcookaaSame
import Derived.Test.YtncpikaegcookaaRefe
namespace Go.Proofs.Ytncpikaegcookaa
open Go.ChangeShapes Go.WideShapes Go.ChangeAt Go.RowKit
set_option linter.unusedVariables false

end Go.Proofs.Ytncpikaegcookaa
