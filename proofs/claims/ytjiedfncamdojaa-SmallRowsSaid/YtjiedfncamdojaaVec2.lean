/- vec.Same. -/
import Derived.Test.YtjiedfncamdojaaVec
import Derived.Test.YtjiedfncamdojaaSame
import Derived.Test.YtjiedfncamdojaaRefe
namespace Go.Proofs.Ytjiedfncamdojaa
open Go.ChangeShapes Go.WideShapes Go.ChangeAt Go.RowKit
set_option linter.unusedVariables false

end Go.Proofs.Ytjiedfncamdojaa
