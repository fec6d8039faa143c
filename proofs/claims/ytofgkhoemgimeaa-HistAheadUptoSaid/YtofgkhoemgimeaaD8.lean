/- Put together by program (merge.py): Noder. -/
import Derived.Test.YtofgkhoemgimeaaD4
import Derived.Test.YtofgkhoemgimeaaD7
/- Reference 14's Node and power. -/
namespace Go.Proofs.Ytofgkhoemgimeaa
open Go.ChangeShapes Go.WideShapes Go.ChangeAt Go.RowKit
set_option linter.unusedVariables false
/-- The nodes' sizes. -/
def Fo.sizes : Fo → List Int
  | .nil => []
  | .cons _ n _ r => n :: r.sizes
theorem Fo.sizes_len : ∀ f : Fo, f.sizes.length = f.len
  | .nil => rfl
  | .cons _ _ _ r => by simp [Fo.sizes, Fo.len, Fo.sizes_len r]
theorem Fo.sizes_at : ∀ (f : Fo) (i : Nat), f.sizes.getD i 0 = f.n i
  | .nil, i => by simp [Fo.sizes, Fo.n]
  | .cons _ _ _ r, 0 => by simp [Fo.sizes, Fo.n]
  | .cons _ _ _ r, i + 1 => by have := Fo.sizes_at r i; simpa [Fo.sizes, Fo.n] using this
theorem hasp_pw {n : Int} (h : n ≤ 16777216) : hasp n = pwb n := by unfold hasp; rw [decide_eq_true h]; rfl
theorem hasp_big {n : Int} (h : ¬ n ≤ 16777216) : hasp n = false := by unfold hasp; rw [decide_eq_false h]; rfl
theorem hasp_low {n : Int} (h : ¬ 1 ≤ n) : hasp n = false := by unfold hasp; rw [pwb_no (fun x => h x.1), Bool.and_false]
end Go.Proofs.Ytofgkhoemgimeaa
