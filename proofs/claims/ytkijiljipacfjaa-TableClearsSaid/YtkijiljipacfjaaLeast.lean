/- The reference's Least. -/
import Derived.Test.YtkijiljipacfjaaPowm
import Derived.Test.YtkijiljipacfjaaRefb
import Derived.Test.YtkijiljipacfjaaVecc
namespace Go.Proofs.Ytkijiljipacfjaa
open Go.ChangeShapes Go.WideShapes Go.ChangeAt Go.RowKit
set_option linter.unusedVariables false

/-- The primes of P - 1. -/
def qsl : List Int := [2, 3, 5, 17, 257, 65537]
theorem qsl_at : ∀ i, i < 6 → 2 ≤ qsl.getD i 0 ∧ qsl.getD i 0 ≤ 65537 := by decide
theorem qsl_wf : ∀ z ∈ qsl, (Lit.int .u64 z).wf = true := by decide

end Go.Proofs.Ytkijiljipacfjaa
