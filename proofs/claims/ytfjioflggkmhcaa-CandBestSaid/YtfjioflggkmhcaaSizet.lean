/- All plans of all sizes are right: reckoned. -/
import Derived.Test.YtfjioflggkmhcaaSizec
namespace Go.Proofs.Ytfjioflggkmhcaa
open Go.ChangeShapes Go.WideShapes Go.ChangeAt Go.RowKit
set_option linter.unusedVariables false
theorem all_right : allR = true := by decide +kernel
end Go.Proofs.Ytfjioflggkmhcaa
