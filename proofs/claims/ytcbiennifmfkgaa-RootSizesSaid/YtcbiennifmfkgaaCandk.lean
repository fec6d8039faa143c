/- Package cand's Plain; the page's example of layer 19. -/
import Derived.Test.YtcbiennifmfkgaaCandj
namespace Go.Proofs.Ytcbiennifmfkgaa
open Go.ChangeShapes Go.WideShapes Go.ChangeAt Go.RowKit
set_option linter.unusedVariables false
set_option linter.unusedSimpArgs false
/-- A row of trees. -/
def ofL : List Nd → Fo
  | [] => .nil
  | d :: l => .cons d.k d.n d.ks (ofL l)
theorem ofL_top : ∀ l : List Nd, (ofL l).top = l
  | [] => rfl
  | d :: l => by rw [ofL, Fo.top, ofL_top l]
theorem ofL_len (l : List Nd) : (ofL l).len = l.length := by rw [← Fo.top_len, ofL_top]
theorem has96 : hasb ((96 : Nat) : Int) = true := by decide
theorem has5 : hasb ((5 : Nat) : Int) = true := by decide
theorem pl96 : (plT 16777216 96).k = 4 ∧ (plT 16777216 96).ks.len = 2 ∧ (plT 16777216 96).ks.n 1 = 32 := by decide +kernel
theorem l5 : (ofL (candL 5)).len = 4 ∧ (ofL (candL 5)).k 2 = 6 := by decide +kernel
end Go.Proofs.Ytcbiennifmfkgaa
