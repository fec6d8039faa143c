/- Reference 13's At, for every tree and path. -/
import Derived.Test.YtcbiennifmfkgaaClonel
import Derived.BigQuiet
import Derived.Deep.QuietTactic
import Derived.Deep.DeepCutAuto
namespace Go.Proofs.Ytcbiennifmfkgaa
open Go.ChangeShapes Go.WideShapes Go.ChangeAt Go.RowKit
set_option linter.unusedVariables false
/-- The node at a path. -/
def atN : Int → Int → Fo → List Int → Option (Int × Int × Fo)
  | k, n, ks, [] => some (k, n, ks)
  | _, _, ks, i :: r => if i < 0 ∨ (ks.len : Int) ≤ i then none else atN (ks.k i.toNat) (ks.n i.toNat) (ks.kids i.toNat) r
/-- What At hands back. -/
def AtG (lim : Nat) (o : Option (Int × Int × Fo)) (e : Ending) (w' : World) : Prop :=
  ∃ k n p m c ok ks, e = .returned (.tuple #[.agg #[.int .i64 k, .int .i64 n, .slice p m c], .bool ok]) ∧ Kids w' lim (.slice p m c) ks ∧ (ok = true → o = some (k, n, ks)) ∧ (ok = false → o = none ∧ k = 0 ∧ n = 0 ∧ ks = .nil)
theorem results_cell_tmp' {P : Program} {fn : Func} {p a : Tmp} {ty : TypeId} (h : fn.results = #[.cell p ty, .tmp a]) (tmps : Array Value) (w : World) (g : Nat) (t : TypeId) (cs : Array Value) (fr : Nat × Nat) (d : TypeDesc) (x : Value)
    (hp : tmps.getD p undef = .pointer (some ⟨g, 0, none⟩)) (ha : tmps.getD a undef = x) (hg : w.heap[g]? = some (.cells cs t fr))
    (hu : P.underlying ty = some d) (hd : (match d with | .struct _ | .array _ _ => true | _ => false) = true) (hi : (P.info? ty).map (·.size) = some cs.size) :
    (results fn tmps).run P w = .ok (.tuple #[.agg cs, x]) w := by
  have e : tmps[p]?.getD undef = .pointer (some ⟨g, 0, none⟩) := by simpa using hp
  have ea : tmps[a]?.getD undef = x := by simpa using ha
  simp [results, h, e, ea, asAddr, run_loadVar_row w g t ty cs fr d hg hu hd hi]
theorem row_put3 {w : World} {g : Nat} {x y z a b c : Value} {T : TypeId} (h : w.heap[g]? = some (.cells #[x, y, z] T (0, 0))) : (((w.setCell ⟨g, 0, none⟩ a).setCell ⟨g, 1, none⟩ b).setCell ⟨g, 2, none⟩ c).heap[g]? = some (.cells #[a, b, c] T (0, 0)) := by
  rw [row_setCell3 (row_setCell3 (row_setCell3 h _) _) _]; rfl
theorem below_put3 {B g : Nat} {W w : World} (h : Below B W w) (hg : B ≤ g) (a b c : Value) : Below B W (((w.setCell ⟨g, 0, none⟩ a).setCell ⟨g, 1, none⟩ b).setCell ⟨g, 2, none⟩ c) :=
  ((h.setCell (p := ⟨g, 0, none⟩) hg _).setCell (p := ⟨g, 1, none⟩) hg _).setCell (p := ⟨g, 2, none⟩) hg _
end Go.Proofs.Ytcbiennifmfkgaa
