/- Transforms as double sums. Plain numbers: no Go text. -/
import Derived.Test.YtkijiljipacfjaaGeo
import Derived.Test.YtkijiljipacfjaaDft
namespace Go.Proofs.Ytkijiljipacfjaa
open Go.ChangeShapes Go.WideShapes Go.ChangeAt Go.RowKit
set_option linter.unusedVariables false
/-- A polynomial at a place. -/
def ps (st : Int) : List Int → Int
  | [] => 0
  | x :: r => x + st * ps st r
theorem hor_ps (st : Int) : ∀ xs, hor st xs = fm (ps st xs)
  | [] => rfl
  | x :: r => by
    have e1 : hor st (x :: r) = fm (fm (hor st r * st) + x) := rfl
    have e2 : ps st (x :: r) = x + st * ps st r := rfl
    rw [e1, e2, hor_ps st r, fm_mul_l, fm_add_l]
    congr 1
    grind
/-- The sum of t^i times the polynomial at r^i, for i below n. -/
def dsum (r t : Int) (xs : List Int) : Nat → Int
  | 0 => 0
  | i + 1 => dsum r t xs i + t ^ i * ps (r ^ i) xs
/-- The sum of x_j times the sum of the first n powers of t r^j. -/
def esum (r : Int) (n : Nat) : Int → List Int → Int
  | _, [] => 0
  | t, x :: rest => x * gsum t n + esum r n (t * r) rest
theorem dsum_nil (r t : Int) : ∀ n, dsum r t [] n = 0
  | 0 => rfl
  | i + 1 => by
    have e : dsum r t [] (i + 1) = dsum r t [] i + t ^ i * ps (r ^ i) [] := rfl
    rw [e, dsum_nil r t i]
    simp [ps]
theorem dsum_cons (r t x : Int) (rest : List Int) : ∀ n, dsum r t (x :: rest) n = x * gsum t n + dsum r (t * r) rest n
  | 0 => by simp [dsum, gsum]
  | i + 1 => by
    have e1 : dsum r t (x :: rest) (i + 1) = dsum r t (x :: rest) i + t ^ i * (x + r ^ i * ps (r ^ i) rest) := rfl
    have e2 : dsum r (t * r) rest (i + 1) = dsum r (t * r) rest i + (t * r) ^ i * ps (r ^ i) rest := rfl
    have e3 : gsum t (i + 1) = gsum t i + t ^ i := rfl
    rw [e1, e2, e3, dsum_cons r t x rest i, Int.mul_pow]
    grind
theorem dsum_esum (r : Int) (n : Nat) : ∀ (xs : List Int) (t : Int), dsum r t xs n = esum r n t xs
  | [], t => dsum_nil r t n
  | x :: rest, t => by
    have e : esum r n t (x :: rest) = x * gsum t n + esum r n (t * r) rest := rfl
    rw [dsum_cons, dsum_esum r n rest (t * r), e]
end Go.Proofs.Ytkijiljipacfjaa
