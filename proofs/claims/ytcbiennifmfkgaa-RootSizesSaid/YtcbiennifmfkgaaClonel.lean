/- package desc's Clone of a leaf, At, and the live example of layer 13. -/
import Derived.Test.YtcbiennifmfkgaaNodesl
import Derived.Test.YtcbiennifmfkgaaDepthd
namespace Go.Proofs.Ytcbiennifmfkgaa
open Go.ChangeShapes Go.WideShapes Go.ChangeAt Go.RowKit
set_option linter.unusedVariables false
theorem row_setCell3 {w : World} {g o : Nat} {cs : Array Value} {T : TypeId} {fr : Nat × Nat} (h : w.heap[g]? = some (.cells cs T fr)) (v : Value) : (w.setCell ⟨g, o, none⟩ v).heap[g]? = some (.cells (cs.setIfInBounds o v) T fr) := by
  simp [World.setCell, Array.getElem?_modify, h]
theorem row_cells3 {w : World} {g : Nat} {a b c : Value} {T : TypeId} (h : w.heap[g]? = some (.cells #[a, b, c] T (0, 0))) : w.cell? ⟨g, 0, none⟩ = some a ∧ w.cell? ⟨g, 1, none⟩ = some b ∧ w.cell? ⟨g, 2, none⟩ = some c ∧ w.frozen? ⟨g, 0, none⟩ = false ∧ w.frozen? ⟨g, 1, none⟩ = false ∧ w.frozen? ⟨g, 2, none⟩ = false :=
  ⟨by rw [cell_of_row _ _ _ _ _ _ h]; rfl, by rw [cell_of_row _ _ _ _ _ _ h]; rfl, by rw [cell_of_row _ _ _ _ _ _ h]; rfl, frozen_of_row _ _ _ _ _ h, frozen_of_row _ _ _ _ _ h, frozen_of_row _ _ _ _ _ h⟩
theorem clone_start (W : World) (a b c a' b' c' : Value) (T : TypeId) : ∃ w0 : World, w0 = (W.alloc (.cells #[a, b, c] T)).alloc (.cells #[a', b', c'] T) ∧ w0.heap[W.heap.size]? = some (.cells #[a, b, c] T (0, 0)) ∧ w0.heap[W.heap.size + 1]? = some (.cells #[a', b', c'] T (0, 0)) ∧ Below W.heap.size W w0 ∧ w0.heap.size = W.heap.size + 2 := by
  have h1 := heap_alloc_new W (.cells #[a, b, c] T)
  have h2 := heap_alloc_new (W.alloc (.cells #[a, b, c] T)) (.cells #[a', b', c'] T)
  simp only [World.size_alloc] at h2
  exact ⟨_, rfl, by rw [Below.heap_alloc _ _ _ (by simp)]; exact h1, h2, ((Below.refl _ _).alloc (Nat.le_refl _) _).alloc (by simp) _, by simp⟩
end Go.Proofs.Ytcbiennifmfkgaa
