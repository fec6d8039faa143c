/- gold.Pow, gold.Inv, gold.Sum. -/
import Derived.Test.YthnpbfboedgmpaaGold
namespace Go.Proofs.Ythnpbfboedgmpaa
open Go.ChangeShapes Go.WideShapes Go.ChangeAt Go.RowKit
set_option linter.unusedVariables false
set_option linter.unusedVariables false

theorem fm_pow (x : Int) (y : Int) (k : Nat) : fm (x * fm y ^ k) = fm (x * y ^ k) := by
  induction k generalizing x with
  | zero => simp
  | succ k ih =>
    have e1 : x * fm y ^ (k + 1) = (x * fm y) * fm y ^ k := by rw [Int.pow_succ, Int.mul_assoc, Int.mul_comm (fm y ^ k)]
    have e2 : x * y ^ (k + 1) = (x * y) * y ^ k := by rw [Int.pow_succ, Int.mul_assoc, Int.mul_comm (y ^ k)]
    rw [e1, e2, ih, ← fm_mul_l (x * fm y), fm_mul_r, fm_mul_l]

theorem pow_sq (a : Int) (k : Nat) : (a * a) ^ k = a ^ (2 * k) := by
  induction k with
  | zero => simp
  | succ k ih => rw [Int.pow_succ, ih, show 2 * (k + 1) = 2 * k + 1 + 1 from by omega, Int.pow_succ, Int.pow_succ, Int.mul_assoc]

theorem pow_even (p a : Int) (k : Nat) (h : k % 2 = 0) : fm (p * fm (a * a) ^ (k / 2)) = fm (p * a ^ k) := by
  rw [fm_pow, pow_sq, show 2 * (k / 2) = k from by omega]
theorem pow_odd (p a : Int) (k : Nat) (h : k % 2 = 1) : fm (fm (p * a) * fm (a * a) ^ (k / 2)) = fm (p * a ^ k) := by
  rw [fm_mul_l, fm_pow, pow_sq]
  have e := Int.pow_succ a (2 * (k / 2))
  rw [show (2 * (k / 2)).succ = k from by omega] at e
  rw [e, Int.mul_assoc, Int.mul_comm a]

/-- The exponent of the inverse: P - 2. -/
def p2 : Nat := 18446744069414584319
def finv (a : Int) : Int := fm (a ^ p2)

end Go.Proofs.Ythnpbfboedgmpaa
