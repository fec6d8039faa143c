/- package desc's Nodes, where no kid has kids. -/
import Derived.Test.YtcbiennifmfkgaaRowsl
namespace Go.Proofs.Ytcbiennifmfkgaa
open Go.ChangeShapes Go.WideShapes Go.ChangeAt Go.RowKit
set_option linter.unusedVariables false
open Go.Shelf
attribute [local go_sem] Oper.semAt_some
theorem bxn_kept {W W' : World} {row : Option Nat} {B : Nat} {T : TypeId} {v : Value} (h : Bx W B T v) (hg : W.grownBy W' row) (hr : ∀ r, row = some r → ∃ o : Obj, W.heap[r]? = some o ∧ o.isCells = false) : Bx W' B T v := by
  unfold Bx
  rw [hg.block B h.lt (fun e => by obtain ⟨o, h1, h2⟩ := hr B e.symm; unfold Bx at h; rw [h] at h1; cases h1; cases h2)]
  exact h
end Go.Proofs.Ytcbiennifmfkgaa
