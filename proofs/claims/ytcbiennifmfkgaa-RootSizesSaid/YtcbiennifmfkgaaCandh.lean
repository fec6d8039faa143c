/- Package cand's List: the walk. -/
import Derived.Test.YtcbiennifmfkgaaCandg
namespace Go.Proofs.Ytcbiennifmfkgaa
open Go.ChangeShapes Go.WideShapes Go.ChangeAt Go.RowKit
set_option linter.unusedVariables false
set_option linter.unusedSimpArgs false
theorem cells3 {w : World} {g : Nat} {a b c : Value} {T : TypeId} (h : w.heap[g]? = some (.cells #[a, b, c] T (0, 0))) : ∀ j u, [a, b, c][j]? = some u → w.cell? ((⟨g, 0, none⟩ : Addr).add j) = some u := by
  intro q z hq
  obtain ⟨z0, z1, z2, _, _, _⟩ := row_cells3 h
  rw [Addr.add_lit, Nat.zero_add]
  match q, hq with
  | 0, hq => simp at hq; subst hq; exact z0
  | 1, hq => simp at hq; subst hq; exact z1
  | 2, hq => simp at hq; subst hq; exact z2
theorem abv_pos {n m : Nat} (h : IsAbvb n m) : 1 ≤ m := by
  obtain ⟨j, rfl, _⟩ := h
  exact Nat.pos_of_ne_zero (by simp)
theorem abv_le {n m : Nat} (h : IsAbvb n m) (hn : n ≤ 16777216) : m ≤ 16777216 := by
  obtain ⟨j, rfl, _, h3⟩ := h
  by_cases hj : j ≤ 24
  · exact Nat.le_trans (Nat.pow_le_pow_right (by decide) hj) (by decide)
  · have := h3 24 (by omega); omega
end Go.Proofs.Ytcbiennifmfkgaa
