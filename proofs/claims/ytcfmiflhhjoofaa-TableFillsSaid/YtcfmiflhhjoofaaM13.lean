/- Put together by program (merge.py): Dft Live5. -/
import Derived.Test.YtcfmiflhhjoofaaM8
import Derived.Test.YtcfmiflhhjoofaaM9
import Derived.Test.YtcfmiflhhjoofaaM11
import Derived.Test.YtcfmiflhhjoofaaM12
/- Package dft. -/
namespace Go.Proofs.Ytcfmiflhhjoofaa
open Go.ChangeShapes Go.WideShapes Go.ChangeAt Go.RowKit
set_option linter.unusedVariables false
/-- A polynomial at a place, by Horner's rule. -/
def hor (st : Int) : List Int → Int
  | [] => 0
  | x :: r => fm (fm (hor st r * st) + x)
theorem hor_lo (st : Int) : ∀ xs, 0 ≤ hor st xs
  | [] => Int.le_refl _
  | _ :: _ => fm_lo _
theorem hor_hi (st : Int) : ∀ xs, hor st xs ≤ 18446744069414584320
  | [] => (by omega : (0 : Int) ≤ 18446744069414584320)
  | _ :: _ => fm_hi _
theorem hor_step (st : Int) (xs : List Int) (j : Nat) (h : j < xs.length) : fm (fm (hor st (xs.drop (j + 1)) * st) + xs.getD j 0) = hor st (xs.drop j) := by
  rw [List.drop_eq_getElem_cons h]
  simp [hor, List.getD, h]
theorem keepC {w0 w w' : World} {p q : Addr} {u v : Value} (hp : p.block < w0.heap.size) (hq : q.block < w0.heap.size) (hS : w.cell? p = some u ∧ w.cell? q = some v ∧ Below w0.heap.size w0 w) (hb : Below w.heap.size w w') :
    w'.cell? p = some u ∧ w'.cell? q = some v ∧ Below w0.heap.size w0 w' := keepB hp hq hS (hb.mono hS.2.2.size)
/-- The transform by the powers of r. -/
def horl (r : Int) (xs : List Int) (n : Nat) : List Int := (List.range n).map fun k => hor (fm (r ^ k)) xs
theorem horl_len (r : Int) (xs : List Int) (n : Nat) : (horl r xs n).length = n := by unfold horl; simp
theorem horl_at (r : Int) (xs : List Int) (n k : Nat) (h : k < n) : (horl r xs n).getD k 0 = hor (fm (r ^ k)) xs := by unfold horl; simp [List.getD, h]
theorem horl_wf (r : Int) (xs : List Int) (n : Nat) : ∀ z ∈ horl r xs n, (Lit.int .u64 z).wf = true := by
  intro z hz
  unfold horl at hz
  obtain ⟨k, _, rfl⟩ := List.mem_map.1 hz
  exact WalkArith.wf_u64 ⟨hor_lo _ _, by have := hor_hi (fm (r ^ k)) xs; omega⟩
end Go.Proofs.Ytcfmiflhhjoofaa
/- The page's example of layer 5. -/
namespace Go.Proofs.Ytcfmiflhhjoofaa
open Go.ChangeShapes Go.WideShapes Go.ChangeAt Go.RowKit
set_option linter.unusedVariables false

theorem wf123 : ∀ x ∈ [(1 : Int), 2, 3], (Lit.int .u64 x).wf = true := by decide
theorem same3 (w : World) (B C : Nat) (x y z : Int) (h : RowAt w B 43 [x, y, z]) (k : RowAt w C 43 [x, y, z]) :
    Calls Try.prog 10 #[.slice (some ⟨B, 0, none⟩) 3 3, .slice (some ⟨C, 0, none⟩) 3 3] w fun e w' => e = .returned (.bool true) ∧ Below w.heap.size w w' := by
  have := r2_same (some ⟨B, 0, none⟩) (some ⟨C, 0, none⟩) 3 3 [x, y, z] [x, y, z] w h.reads k.reads (by simp)
  rwa [decide_eq_true rfl] at this
theorem rowat3 (w : World) (x y z : Int) : RowAt (w.alloc (.cells #[.int .u64 x, .int .u64 y, .int .u64 z] 43)) w.heap.size 43 [x, y, z] := by
  unfold RowAt; rw [heap_alloc_new]; rfl

end Go.Proofs.Ytcfmiflhhjoofaa
