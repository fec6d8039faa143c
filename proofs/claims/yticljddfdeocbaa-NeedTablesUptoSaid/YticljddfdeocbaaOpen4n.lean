/- A struct of four ints, opened. -/
import Derived.Lib.SmallJoins
import Derived.Test.YticljddfdeocbaaD11
namespace Go.Proofs.Yticljddfdeocbaa
open Go.ChangeShapes Go.WideShapes Go.ChangeAt Go.RowKit
set_option linter.unusedVariables false
open Go.Joins Go.Deep
theorem open_struct4i {H : Type} {enc : TypeId × Value → H} {P : Program} {w : World} {r : Reach} {b0 base : Nat} {spare : Nat → Bool} {held : Bool} {t e : TypeId} {g0 g1 g2 g3 : Field} {k : IntKind} {v : Value} {d : DataW H} {p : List MemPlace}
    (hs : P.underlying t = some (.struct #[g0, g1, g2, g3])) (hone : oneCellFields P #[g0, g1, g2, g3] = true) (hC : P.cellsOf t = 4) (he : P.underlying e = some (.int k))
    (hv : Value.okWide P w r b0 t v) (h : DataW.Trod enc P w base spare held t v d p) (h0 : g0.type = e := by rfl) (h1 : g1.type = e := by rfl) (h2 : g2.type = e := by rfl) (h3 : g3.type = e := by rfl) :
    ∃ x0 x1 x2 x3 : Int, v = .agg #[.int k x0, .int k x1, .int k x2, .int k x3] ∧ (Lit.int k x0).wf = true ∧ (Lit.int k x1).wf = true ∧ (Lit.int k x2).wf = true ∧ (Lit.int k x3).wf = true := by
  obtain ⟨v0, v1, v2, v3, y0, y1, y2, y3, n, rfl, _, _, t0, t1, t2, t3⟩ := open_agg4 hs hone hC hv h
  rw [h0] at t0; rw [h1] at t1; rw [h2] at t2; rw [h3] at t3
  obtain ⟨x0, e0, _, f0⟩ := DataW.trod_int he t0
  obtain ⟨x1, e1, _, f1⟩ := DataW.trod_int he t1
  obtain ⟨x2, e2, _, f2⟩ := DataW.trod_int he t2
  obtain ⟨x3, e3, _, f3⟩ := DataW.trod_int he t3
  simp only [List.cons.injEq, and_true] at e0 e1 e2 e3
  exact ⟨x0, x1, x2, x3, by rw [e0, e1, e2, e3], f0, f1, f2, f3⟩
end Go.Proofs.Yticljddfdeocbaa
