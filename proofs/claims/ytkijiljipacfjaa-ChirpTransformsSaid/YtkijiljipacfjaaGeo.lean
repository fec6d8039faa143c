/- Sums of the powers of a root of unity. Plain numbers: no Go text. -/
import Derived.Test.YtkijiljipacfjaaPrime
namespace Go.Proofs.Ytkijiljipacfjaa
open Go.ChangeShapes Go.WideShapes Go.ChangeAt Go.RowKit
set_option linter.unusedVariables false
theorem fm_zero_of_mul {a b : Int} (h : fm (a * b) = 0) (ha : fm a ≠ 0) : fm b = 0 := by
  have k := Fld.inv_mul a ha
  generalize fm (a ^ Fld.p2') = i at k
  have e : fm (i * (a * b)) = fm b := by
    rw [← Int.mul_assoc, ← fm_mul_l, k, Int.one_mul]
  rw [← e, ← fm_mul_r, h, Int.mul_zero]
  rfl
/-- The sum of the first n powers. -/
def gsum (r : Int) : Nat → Int
  | 0 => 0
  | k + 1 => gsum r k + r ^ k
theorem gsum_mul (r : Int) : ∀ n, (r - 1) * gsum r n = r ^ n - 1
  | 0 => by simp [gsum]
  | k + 1 => by
    have e : gsum r (k + 1) = gsum r k + r ^ k := rfl
    rw [e, Int.mul_add, gsum_mul r k, Int.pow_succ]
    grind
theorem gsum_zero (r : Int) (n : Nat) (h : fm (r ^ n) = 1) (h1 : fm r ≠ 1) : fm (gsum r n) = 0 := by
  refine fm_zero_of_mul (a := r - 1) ?_ ?_
  · rw [gsum_mul, ← fm_sub_l, h]; rfl
  · intro e
    apply h1
    have : fm r = fm (fm (r - 1) + 1) := by rw [fm_add_l]; congr 1; omega
    rw [this, e]
    rfl
theorem gsum_one (r : Int) (h : fm r = 1) : ∀ n : Nat, fm (gsum r n) = fm n
  | 0 => rfl
  | k + 1 => by
    have e : gsum r (k + 1) = gsum r k + r ^ k := rfl
    have h2 : fm (r ^ k) = 1 := by rw [← Fld.fm_pow1, h, Int.one_pow]; rfl
    rw [e, ← fm_add_l, gsum_one r h k, ← fm_add_r, h2, fm_add_l]
    congr 1
end Go.Proofs.Ytkijiljipacfjaa
