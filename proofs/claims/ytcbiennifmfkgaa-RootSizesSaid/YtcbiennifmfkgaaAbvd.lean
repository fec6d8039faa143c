/- The least power of two that is not below a number: package fact's and reference 3's Above. -/
import Derived.Test.YtcbiennifmfkgaaD11
namespace Go.Proofs.Ytcbiennifmfkgaa
open Go.ChangeShapes Go.WideShapes Go.ChangeAt Go.RowKit
set_option linter.unusedVariables false
/-- The least power of two that is not below n. -/
def IsAbvb (n m : Nat) : Prop := ∃ j, m = 2 ^ j ∧ n ≤ 2 ^ j ∧ ∀ i, i < j → 2 ^ i < n
theorem isAbv_uniqb {n a b : Nat} (h : IsAbvb n a) (k : IsAbvb n b) : a = b := by
  obtain ⟨i, rfl, h1, h2⟩ := h
  obtain ⟨j, rfl, k1, k2⟩ := k
  rcases Nat.lt_trichotomy i j with h | h | h
  · have := k2 i h; omega
  · rw [h]
  · have := h2 j h; omega
theorem abv_nextb {n m : Nat} (h : ∃ j, m = 2 ^ j ∧ ∀ i, i < j → 2 ^ i < n) (hm : m < n) : ∃ j, 2 * m = 2 ^ j ∧ ∀ i, i < j → 2 ^ i < n := by
  obtain ⟨j, rfl, h⟩ := h
  refine ⟨j + 1, by rw [Nat.pow_succ]; omega, fun i hi => ?_⟩
  by_cases e : i = j
  · rw [e]; exact hm
  · exact h i (by omega)
end Go.Proofs.Ytcbiennifmfkgaa
