/- Reference 13's Cmp and Same; package desc's Same. -/
import Derived.Test.YtcbiennifmfkgaaCmpd
namespace Go.Proofs.Ytcbiennifmfkgaa
open Go.ChangeShapes Go.WideShapes Go.ChangeAt Go.RowKit
set_option linter.unusedVariables false
theorem three_at {t : Nat} (ht : t < 3) : t = 0 ∨ t = 1 ∨ t = 2 := by omega
/-- A block of three numbers. -/
theorem row3 (W : World) (a b c : Int) (T : TypeId) : ∃ w0 : World, w0 = W.alloc (.cells #[.int .i64 a, .int .i64 b, .int .i64 c] T) ∧ (∀ t, t < 3 → w0.cell? ⟨W.heap.size, t, none⟩ = some (.int .i64 ([a, b, c].getD t 0))) ∧ Below W.heap.size W w0 ∧ w0.heap.size = W.heap.size + 1 := by
  obtain ⟨w0, h, a0, a1, a2, b1, s1⟩ := box3 W a b (.int .i64 c) T
  refine ⟨w0, h, fun t ht => ?_, b1, s1⟩
  rcases three_at ht with rfl | rfl | rfl
  · exact a0
  · exact a1
  · exact a2
end Go.Proofs.Ytcbiennifmfkgaa
