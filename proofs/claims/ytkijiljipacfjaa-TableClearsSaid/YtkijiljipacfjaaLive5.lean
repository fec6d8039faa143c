/- The page's example of layer 5. -/
import Derived.Test.YtkijiljipacfjaaVec3
import Derived.Test.YtkijiljipacfjaaSame
namespace Go.Proofs.Ytkijiljipacfjaa
open Go.ChangeShapes Go.WideShapes Go.ChangeAt Go.RowKit
set_option linter.unusedVariables false

theorem wf123 : ∀ x ∈ [(1 : Int), 2, 3], (Lit.int .u64 x).wf = true := by decide
theorem same3 (w : World) (B C : Nat) (x y z : Int) (h : RowAt w B 35 [x, y, z]) (k : RowAt w C 35 [x, y, z]) :
    Calls Try.prog 17 #[.slice (some ⟨B, 0, none⟩) 3 3, .slice (some ⟨C, 0, none⟩) 3 3] w fun e w' => e = .returned (.bool true) ∧ Below w.heap.size w w' := by
  have := r2_same (some ⟨B, 0, none⟩) (some ⟨C, 0, none⟩) 3 3 [x, y, z] [x, y, z] w h.reads k.reads (by simp)
  rwa [decide_eq_true rfl] at this
theorem rowat3 (w : World) (x y z : Int) : RowAt (w.alloc (.cells #[.int .u64 x, .int .u64 y, .int .u64 z] 35)) w.heap.size 35 [x, y, z] := by
  unfold RowAt; rw [heap_alloc_new]; rfl

end Go.Proofs.Ytkijiljipacfjaa
