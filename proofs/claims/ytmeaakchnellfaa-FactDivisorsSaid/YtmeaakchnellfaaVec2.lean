/- vec.Same. -/
import Derived.Test.YtmeaakchnellfaaVec
import Derived.Test.YtmeaakchnellfaaSame
import Derived.Test.YtmeaakchnellfaaRefe
namespace Go.Proofs.Ytmeaakchnellfaa
open Go.ChangeShapes Go.WideShapes Go.ChangeAt Go.RowKit
set_option linter.unusedVariables false

end Go.Proofs.Ytmeaakchnellfaa
