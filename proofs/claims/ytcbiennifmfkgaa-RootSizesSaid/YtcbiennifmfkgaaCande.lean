/- Package cand's add and pairs. -/
import Derived.Test.YtcbiennifmfkgaaCandd
namespace Go.Proofs.Ytcbiennifmfkgaa
open Go.ChangeShapes Go.WideShapes Go.ChangeAt Go.RowKit
set_option linter.unusedVariables false
set_option linter.unusedSimpArgs false
/-- A plan of two. -/
def twoT (k : Int) (n p : Nat) : Nd := ⟨k, n, (plT 16777216 p).fo ((plT 16777216 (n / p)).fo .nil)⟩
/-- For each of some numbers that is not all of n, a plan of two. -/
def prsL (k : Int) (n : Nat) : List Nat → List Nd
  | [] => []
  | p :: ps => if p = n then prsL k n ps else twoT k n p :: prsL k n ps
theorem prsL_snoc (k : Int) (n : Nat) (ps : List Nat) (p : Nat) : prsL k n (ps ++ [p]) = prsL k n ps ++ (if p = n then [] else [twoT k n p]) := by
  induction ps with
  | nil => simp only [List.nil_append, prsL]
  | cons x ps ih =>
    simp only [List.cons_append, prsL]
    split
    · exact ih
    · rw [ih, List.cons_append]
theorem prsL_len (k : Int) (n : Nat) (ps : List Nat) : (prsL k n ps).length ≤ ps.length := by
  induction ps with
  | nil => exact Nat.le_refl _
  | cons x ps ih =>
    simp only [prsL]
    split
    · rw [List.length_cons]; omega
    · rw [List.length_cons, List.length_cons]; omega
def nats (ps : List Nat) : List Int := ps.map fun (p : Nat) => (p : Int)
end Go.Proofs.Ytcbiennifmfkgaa
